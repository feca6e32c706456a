package tests

import (
	"math"
	"math/rand/v2"
	"slices"
	"strconv"
	"strings"
	"testing"

	"loop.example/matchcompiler/impl"
)

const (
	pairWorld = "P=Two(Q,Q);Q=Qa(I,I)|Qb"
	// picks is the number of ways to choose.
	picks = 3
)

// runners choose clauses by their tree, or by its nodes.
var runners = map[string]func(w []impl.Data, ty impl.Type, list []impl.Clause, pick int, v impl.Value) (int, []impl.Bind, int){"RunTree": impl.RunTree, "RunNodes": impl.RunNodes}

func leaf(clause int, binds ...impl.PathBind) impl.Tree {
	return impl.Tree{Op: impl.TreeLeaf, Clause: clause, Binds: binds}
}

// fork is a TreeSwitch on the whole value, with branches for the constructors from 0 on.
func fork(kids ...impl.Tree) impl.Tree {
	x := impl.Tree{Op: impl.TreeSwitch}
	for i, kid := range kids {
		x.Branches = append(x.Branches, impl.Branch{Ctor: i, Tree: kid})
	}
	return x
}

// withElse is a tree with more trees as Else.
func withElse(x impl.Tree, rest ...impl.Tree) impl.Tree {
	x.Else = append(slices.Clone(x.Else), rest...)
	return x
}

// placeOf reads the text of a path.
func placeOf(text string) []int {
	var path []int
	for _, digit := range strings.Split(text, ".")[1:] {
		i, _ := strconv.Atoi(digit)
		path = append(path, i)
	}
	return path
}

func equalTrees(a, b impl.Tree) bool {
	sameBind := func(x, y impl.PathBind) bool { return x.Var == y.Var && slices.Equal(x.Path, y.Path) }
	sameBranch := func(x, y impl.Branch) bool {
		return x.Ctor == y.Ctor && x.N == y.N && x.M == y.M && equalTrees(x.Tree, y.Tree)
	}
	same := a.Op == b.Op && a.Clause == b.Clause && slices.EqualFunc(a.Binds, b.Binds, sameBind) && slices.Equal(a.Path, b.Path)
	return same && slices.EqualFunc(a.Branches, b.Branches, sameBranch) && slices.EqualFunc(a.Else, b.Else, equalTrees)
}

// kidsOf are the trees of the branches of a tree, and then those of its Else.
func kidsOf(x impl.Tree) []impl.Tree {
	var kids []impl.Tree
	for _, b := range x.Branches {
		kids = append(kids, b.Tree)
	}
	return append(kids, x.Else...)
}

// treeSizes are, node by node, the number of nodes, and the greatest number of TreeSwitch on a way.
func treeSizes(x impl.Tree) (nodes, tests int) {
	for _, kid := range kidsOf(x) {
		n, k := treeSizes(kid)
		nodes, tests = nodes+n, max(tests, k)
	}
	if x.Op == impl.TreeSwitch {
		tests++
	}
	return nodes + 1, tests
}

// treeMemory reports whether lists of a tree have a place in common with each other or with what is known.
func treeMemory(x impl.Tree, known map[any]bool) bool {
	shared := taken(x.Binds, known) || taken(x.Path, known) || taken(x.Branches, known) || taken(x.Else, known)
	for _, b := range x.Binds {
		shared = taken(b.Path, known) || shared
	}
	return shared || slices.ContainsFunc(kidsOf(x), func(kid impl.Tree) bool { return treeMemory(kid, known) })
}

// taken adds the places of a list, with what it has behind its end, and reports whether one of them is known already.
func taken[T any](list []T, known map[any]bool) bool {
	whole := list[:cap(list)]
	for i := range whole {
		if known[&whole[i]] {
			return true
		}
		known[&whole[i]] = true
	}
	return false
}

// part is a column of the definition.
type part struct {
	path string
	t    impl.Type
}

// line is a row of the definition: patterns and variables with the texts of paths.
type line struct {
	clause int
	pats   map[string]impl.Pattern
	vars   map[int]string
}

// with is the row with a pattern for one more column.
func (l line) with(path string, p impl.Pattern) line {
	next := line{clause: l.clause, pats: map[string]impl.Pattern{}, vars: map[int]string{}}
	for k, v := range l.pats {
		next.pats[k] = v
	}
	for k, v := range l.vars {
		next.vars[k] = v
	}
	for p.Op == impl.PatAs {
		next.vars[p.Var] = path
		p = p.Kids[0]
	}
	if p.Op == impl.PatVar {
		next.vars[p.Var] = path
	} else if p.Op != impl.PatAny {
		next.pats[path] = p
	}
	return next
}

// growth makes the tree of clauses with its text, rule by rule, until there are more than 300 nodes.
type growth struct {
	rules
	list  []impl.Clause
	pick  int
	nodes int
	text  string
}

// treeOf is the tree of valid clauses with its text, rule by rule, and whether there is one.
func (x rules) treeOf(t impl.Type, list []impl.Clause, pick int) (impl.Tree, string, bool) {
	g := growth{rules: x, list: list, pick: pick}
	var lines []line
	for i, c := range list {
		all := chosen(c.Pat, nil)
		if len(all) > 40 {
			return impl.Tree{}, "", false
		}
		for _, p := range all {
			lines = append(lines, line{clause: i}.with("v", p))
		}
	}
	tree := g.grow([]part{{"v", t}}, lines, "")
	if g.nodes > 300 || pick < 0 || pick >= picks {
		return impl.Tree{}, "", false
	}
	return tree, g.text, true
}

func (g *growth) grow(parts []part, lines []line, margin string) impl.Tree {
	g.nodes++
	if g.nodes > 300 {
		return impl.Tree{}
	}
	if len(lines) == 0 {
		g.text += margin + "fail\n"
		return impl.Tree{}
	}
	best := -1
	for i, p := range parts {
		if _, tested := lines[0].pats[p.path]; tested && (best < 0 || g.isBetter(p, parts[best], lines)) {
			best = i
		}
	}
	if best < 0 {
		return g.end(parts, lines, margin)
	}
	at := parts[best]
	x := impl.Tree{Op: impl.TreeSwitch, Path: placeOf(at.path)}
	for _, b := range g.heads(at, lines) {
		name := strconv.Itoa(b.N) + "-" + strconv.Itoa(b.M)
		if b.N == b.M {
			name = strconv.Itoa(b.N)
		}
		var below []part
		if at.t != intType {
			name = g.w[at.t.Data].Ctors[b.Ctor].Name
			types, _ := kidTypes(g.w, at.t, b.Ctor)
			for i, kid := range types {
				below = append(below, part{at.path + "." + strconv.Itoa(i), kid})
			}
		}
		g.text += margin + at.path + " " + name + "\n"
		kept := keptLines(at, b, below, lines)
		b.Tree = g.grow(slices.Concat(parts[:best], below, parts[best+1:]), kept, margin+" ")
		x.Branches = append(x.Branches, b)
	}
	return x
}

// isBetter reports whether a, which is behind b, is chosen rather than b.
func (g *growth) isBetter(a, b part, lines []line) bool {
	switch g.pick {
	case impl.PickMost:
		count := func(p part) int {
			n := 0
			for _, l := range lines {
				if _, tested := l.pats[p.path]; tested {
					n++
				}
			}
			return n
		}
		return count(a) > count(b)
	case impl.PickFew:
		return len(g.heads(a, lines)) < len(g.heads(b, lines))
	}
	return false
}

// heads are the branches for a column, without their trees.
func (g *growth) heads(at part, lines []line) []impl.Branch {
	var list []impl.Branch
	if at.t != intType {
		for c := range g.w[at.t.Data].Ctors {
			types, ok := kidTypes(g.w, at.t, c)
			if ok && !slices.ContainsFunc(types, func(t impl.Type) bool { return !g.has[t] }) {
				list = append(list, impl.Branch{Ctor: c})
			}
		}
		return list
	}
	for n := range 10 {
		cut := n == 0
		for _, l := range lines {
			if p, tested := l.pats[at.path]; tested {
				cut = cut || p.N == n || p.M+1 == n
			}
		}
		if cut {
			list = append(list, impl.Branch{Ctor: impl.CtorInt, N: n, M: n})
		} else {
			list[len(list)-1].M = n
		}
	}
	return list
}

// keptLines are the rows that are kept in a branch for a column, in place of which there are others.
func keptLines(at part, b impl.Branch, below []part, lines []line) []line {
	var kept []line
	for _, l := range lines {
		p, tested := l.pats[at.path]
		isInt := tested && p.Op == impl.PatInt
		if isInt && (p.N > b.N || p.M < b.M) || tested && !isInt && p.Ctor != b.Ctor {
			continue
		}
		next := l
		for i, column := range below {
			if tested {
				next = next.with(column.path, p.Kids[i])
			}
		}
		kept = append(kept, next)
	}
	return kept
}

// end is the TreeLeaf for the first row.
func (g *growth) end(parts []part, lines []line, margin string) impl.Tree {
	first := lines[0]
	x := leaf(first.clause)
	g.text += margin + strconv.Itoa(first.clause)
	for v := range 6 {
		if path, ok := first.vars[v]; ok {
			x.Binds = append(x.Binds, impl.PathBind{Var: v, Path: placeOf(path)})
			g.text += " " + string("abcdef"[v]) + "=" + path
		}
	}
	g.text += "\n"
	if g.list[first.clause].Guard.Op == impl.GuardNone {
		return x
	}
	g.text += margin + "else\n"
	others := slices.DeleteFunc(slices.Clone(lines), func(l line) bool { return l.clause == first.clause })
	x.Else = []impl.Tree{g.grow(parts, others, margin+" ")}
	return x
}

// checkNoTree checks that there is no tree for clauses.
func checkNoTree(t *testing.T, name string, w []impl.Data, ty impl.Type, list []impl.Clause, pick int) {
	t.Helper()
	if x, ok := impl.CompileClauses(w, ty, list, pick); ok || !equalTrees(x, impl.Tree{}) {
		t.Errorf("%s: CompileClauses(%v, %d clauses, %d) = %v, %v", name, ty, len(list), pick, x, ok)
	}
	for _, v := range []impl.Value{number(0), number(3), made(0), made(1, number(0), made(0))} {
		checkNoRun(t, name, w, ty, list, pick, v)
	}
	if text := impl.FormatTree(w, ty, list, pick); text != "" {
		t.Errorf("%s: FormatTree(%v, %d clauses, %d) = %q", name, ty, len(list), pick, text)
	}
}

// checkNoRun checks that no tree runs for a value.
func checkNoRun(t *testing.T, name string, w []impl.Data, ty impl.Type, list []impl.Clause, pick int, v impl.Value) {
	t.Helper()
	for runner, run := range runners {
		if i, binds, tests := run(w, ty, list, pick, v); i != -1 || len(binds) != 0 || tests != -1 {
			t.Errorf("%s: %s(%v, %d clauses, %d) = %d, %v, %d", name, runner, ty, len(list), pick, i, binds, tests)
		}
	}
}

// eachInvalidClauses checks lists of clauses that are not valid: alone and beside others, and for types that are not valid.
func eachInvalidClauses(t *testing.T, check func(name string, w []impl.Data, ty impl.Type, list []impl.Clause)) {
	t.Helper()
	whole := clauseOf(anyPat())
	beside := func(name string, w []impl.Data, ty impl.Type, c impl.Clause) {
		for _, list := range [][]impl.Clause{{c}, {whole, c}, {c, whole}} {
			check(name, w, ty, list)
		}
	}
	eachInvalidType(t, func(name string, w []impl.Data, ty impl.Type) {
		check(name, w, ty, nil)
		for _, c := range []impl.Clause{whole, guarded(varPat(0), less(0, 3)), clauseOf(intPat(0, 9)), clauseOf(ctorPat(0))} {
			beside(name, w, ty, c)
		}
	})
	list, expr := mustWorld(t, listWorld), mustWorld(t, exprWorld)
	head := ctorPat(1, varPat(0), varPat(1))
	for _, c := range []impl.Clause{
		{}, clauseOf(impl.Pattern{Op: 7}), clauseOf(ctorPat(2)), clauseOf(ctorPat(1)), clauseOf(intPat(0, 9)), clauseOf(varPat(6)), clauseOf(ctorPat(1, varPat(0), varPat(0))), clauseOf(orPat(varPat(0), anyPat())), clauseOf(impl.Pattern{Op: impl.PatAny, N: 1}), guarded(head, less(1, 3)), guarded(head, less(0, 10)), guarded(head, equal(2, 1)), guarded(head, impl.Guard{Op: 3}), guarded(head, impl.Guard{N: 1}), guarded(anyPat(), less(0, 3)), clauseOf(asPat(0)), clauseOf(loop(varPat(0))), clauseOf(ctorPat(1, make([]impl.Pattern, 100000)...)),
	} {
		beside("lists", list, impl.Type{}, c)
	}
	beside("an index that leaves a constructor out", expr, impl.Type{Index: 1}, clauseOf(ctorPat(1, anyPat())))
	check("nine clauses", list, impl.Type{}, slices.Repeat([]impl.Clause{whole}, 9))
}

func TestTreesOfInvalidClauses(t *testing.T) {
	eachInvalidClauses(t, func(name string, w []impl.Data, ty impl.Type, list []impl.Clause) {
		for pick := range picks {
			checkNoTree(t, name, w, ty, list, pick)
		}
	})
}

func TestTreesWithUnknownChoices(t *testing.T) {
	w := mustWorld(t, listWorld)
	for _, pick := range []int{-1, 3, 4, math.MinInt, math.MaxInt} {
		for _, text := range []string{"", "_", "Nil", "Cons(3,a)/_"} {
			checkNoTree(t, "unknown choice", w, impl.Type{}, mustClauses(t, w, impl.Type{}, text), pick)
		}
		checkNoTree(t, "unknown choice", nil, intType, nil, pick)
	}
}

// notLists are values that are not valid lists, one of which contains a list that is as deep as possible.
func notLists(deep impl.Value) []impl.Value {
	return []impl.Value{number(0), made(2), made(-1), made(-2), made(1), made(0, number(0)), made(1, number(10), made(0)), made(1, number(-1), made(0)), made(1, made(0), number(3)), made(1, number(3)), made(1, number(3), made(0), made(0)), {Ctor: 0, N: 1}, {Ctor: 1, N: 1, Kids: []impl.Value{number(3), made(0)}}, made(1, number(0), deep), made(1, number(3), made(1, number(3), made(5)))}
}

func TestRunTreeOfInvalidValues(t *testing.T) {
	w := mustWorld(t, listWorld)
	deep := mustValue(t, w, impl.Type{}, nested(10))
	for pick := range picks {
		for _, text := range []string{"", "_", "a", "Nil", "Cons(3,a)/_", "Cons(a,_) a<3/Nil"} {
			list := mustClauses(t, w, impl.Type{}, text)
			for _, v := range notLists(deep) {
				checkNoRun(t, text, w, impl.Type{}, list, pick, v)
			}
			if i, _, tests := impl.RunTree(w, impl.Type{}, list, pick, deep); tests < 0 || i < -1 {
				t.Errorf("RunTree(%s, %d) of a deep list = %d, %d", text, pick, i, tests)
			}
		}
	}
	expr := mustWorld(t, exprWorld)
	num := mustValue(t, expr, impl.Type{}, "Num(3)")
	checkNoRun(t, "another index", expr, impl.Type{Index: 2}, mustClauses(t, expr, impl.Type{Index: 2}, "_"), impl.PickFirst, num)
}

// treeCase has clauses for a type, and the lines of their trees, with a slash in place of each line break.
type treeCase struct {
	world   string
	t       impl.Type
	clauses string
	lines   [picks]string // one that is empty is that of PickFirst
}

func first(lines string) [picks]string { return [picks]string{lines} }

func checkTrees(t *testing.T, cases []treeCase) {
	t.Helper()
	for _, c := range cases {
		w, _ := impl.ParseWorld(c.world)
		list := mustClauses(t, w, c.t, c.clauses)
		for pick, lines := range c.lines {
			if lines == "" {
				lines = c.lines[impl.PickFirst]
			}
			want := strings.ReplaceAll(lines, "/", "\n") + "\n"
			if got := impl.FormatTree(w, c.t, list, pick); got != want {
				t.Errorf("FormatTree(%q, %v, %s, %d) =\n%snot\n%s", c.world, c.t, c.clauses, pick, got, want)
			}
			checkTree(t, rulesOf(w), c.t, list, pick)
		}
	}
}

// checkTree checks the tree of valid clauses against the rules, and returns it.
func checkTree(t *testing.T, x rules, ty impl.Type, list []impl.Clause, pick int) (impl.Tree, bool) {
	t.Helper()
	name := strconv.Quote(impl.FormatWorld(x.w)) + ": " + impl.FormatClauses(x.w, ty, list) + " with " + strconv.Itoa(pick)
	tree, ok := impl.CompileClauses(x.w, ty, list, pick)
	want, lines, has := x.treeOf(ty, list, pick)
	if ok != has || !equalTrees(tree, want) {
		t.Fatalf("%s: CompileClauses = %v, %v, not %v, %v", name, tree, ok, want, has)
	}
	if text := impl.FormatTree(x.w, ty, list, pick); text != lines {
		t.Fatalf("%s: FormatTree =\n%snot\n%s", name, text, lines)
	}
	nodes, tests := treeSizes(tree)
	if impl.TreeSize(tree) != nodes || impl.TreeTests(tree) != tests || !slices.Equal(impl.TreeLeaves(tree), leavesOf(tree)) {
		t.Fatalf("%s: TreeSize, TreeTests and TreeLeaves = %d, %d, %v, not %d, %d, %v", name, impl.TreeSize(tree), impl.TreeTests(tree), impl.TreeLeaves(tree), nodes, tests, leavesOf(tree))
	}
	if treeMemory(tree, map[any]bool{}) {
		t.Fatalf("%s: two lists of the tree share memory", name)
	}
	checkTestedOnce(t, name, tree, nil)
	return tree, ok
}

// leavesOf are the clauses of a tree of clauses, each once.
func leavesOf(x impl.Tree) []int {
	var list []int
	if x.Op == impl.TreeLeaf {
		list = append(list, x.Clause)
	}
	for _, kid := range kidsOf(x) {
		list = append(list, leavesOf(kid)...)
	}
	slices.Sort(list)
	return slices.Compact(list)
}

// checkTestedOnce checks that no way of a tree has two TreeSwitch on the same part, or one on a part before what contains it.
func checkTestedOnce(t *testing.T, name string, x impl.Tree, tested [][]int) {
	t.Helper()
	if x.Op == impl.TreeSwitch {
		same := func(path []int) bool { return slices.Equal(path, x.Path) }
		above := func(path []int) bool { return slices.Equal(path, x.Path[:max(0, len(x.Path)-1)]) }
		if slices.ContainsFunc(tested, same) || len(x.Path) > 0 && !slices.ContainsFunc(tested, above) {
			t.Fatalf("%s: the part at %v is tested behind %v", name, x.Path, tested)
		}
		tested = append(slices.Clone(tested), x.Path)
	}
	for _, kid := range kidsOf(x) {
		checkTestedOnce(t, name, kid, tested)
	}
}

func TestTreesOfNumbers(t *testing.T) {
	checkTrees(t, []treeCase{
		{"", intType, "", first("fail")}, {"", intType, "_", first("0")}, {"", intType, "d", first("0 d=v")}, {"", intType, "_/3/_", first("0")}, {"", intType, "f@b@a@e", first("0 a=v b=v e=v f=v")}, {"", intType, "3", first("v 0-2/ fail/v 3/ 0/v 4-9/ fail")}, {"", intType, "0", first("v 0/ 0/v 1-9/ fail")}, {"", intType, "9", first("v 0-8/ fail/v 9/ 0")}, {"", intType, "0-9", first("v 0-9/ 0")}, {"", intType, "0-9/3", first("v 0-2/ 0/v 3/ 0/v 4-9/ 0")}, {"", intType, "3/a", first("v 0-2/ 1 a=v/v 3/ 0/v 4-9/ 1 a=v")},
		// Ranges that overlap, touch, or lie in each other.
		{"", intType, "2-5/4-7", first("v 0-1/ fail/v 2-3/ 0/v 4-5/ 0/v 6-7/ 1/v 8-9/ fail")}, {"", intType, "4-7/2-5", first("v 0-1/ fail/v 2-3/ 1/v 4-5/ 0/v 6-7/ 0/v 8-9/ fail")}, {"", intType, "2-5/6-7", first("v 0-1/ fail/v 2-5/ 0/v 6-7/ 1/v 8-9/ fail")}, {"", intType, "2-7/4-5", first("v 0-1/ fail/v 2-3/ 0/v 4-5/ 0/v 6-7/ 0/v 8-9/ fail")}, {"", intType, "4-5/2-7", first("v 0-1/ fail/v 2-3/ 1/v 4-5/ 0/v 6-7/ 1/v 8-9/ fail")}, {"", intType, "0-4/4/4-9", first("v 0-3/ 0/v 4/ 0/v 5-9/ 2")}, {"", intType, "0-4/5-9", first("v 0-4/ 0/v 5-9/ 1")}, {"", intType, "1/3/1/3", first("v 0/ fail/v 1/ 0/v 2/ fail/v 3/ 1/v 4-9/ fail")},
		// Alternatives.
		{"", intType, "(1|8)/_", first("v 0/ 1/v 1/ 0/v 2-7/ 1/v 8/ 0/v 9/ 1")}, {"", intType, "(_|3)/_", first("0")}, {"", intType, "(3|_)/_", first("v 0-2/ 0/v 3/ 0/v 4-9/ 0")}, {"", intType, "(a@(1|2)|a)", first("v 0/ 0 a=v/v 1/ 0 a=v/v 2/ 0 a=v/v 3-9/ 0 a=v")}, {"", intType, "(1-3|2-5)", first("v 0/ fail/v 1/ 0/v 2-3/ 0/v 4-5/ 0/v 6-9/ fail")},
	})
}

func TestTreesWithGuards(t *testing.T) {
	checkTrees(t, []treeCase{
		{"", intType, "a a<3", first("0 a=v/else/ fail")}, {"", intType, "a a<3/_", first("0 a=v/else/ 1")}, {"", intType, "a a<3/b b=5/c", first("0 a=v/else/ 1 b=v/ else/  2 c=v")}, {"", intType, "a a<3/5", first("0 a=v/else/ v 0-4/  fail/ v 5/  1/ v 6-9/  fail")}, {"", intType, "5/a a<7/4-6", first("v 0-3/ 1 a=v/ else/  fail/v 4/ 1 a=v/ else/  2/v 5/ 0/v 6/ 1 a=v/ else/  2/v 7-9/ 1 a=v/ else/  fail")},
		// A guard that always fails, and one that never does.
		{"", intType, "a a<0/_", first("0 a=v/else/ 1")}, {"", intType, "a@3 a=3/_", first("v 0-2/ 1/v 3/ 0 a=v/ else/  1/v 4-9/ 1")},
		// Where a guard fails, the other rows of its clause are gone, too.
		{"", intType, "(a|a) a<3/b", first("0 a=v/else/ 1 b=v")}, {"", intType, "(a@1|a) a=2/(2|_)", first("v 0/ 0 a=v/ else/  1/v 1/ 0 a=v/ else/  1/v 2/ 0 a=v/ else/  1/v 3-9/ 0 a=v/ else/  1")}, {optWorld, impl.Type{}, "(Pair(Som(a),_)|Pair(_,Som(a))) a<3/Pair(_,Non)", first("v Pair/ v.0 Non/  v.1 Non/   1/  v.1 Som/   0 a=v.1.0/   else/    fail/ v.0 Som/  0 a=v.0.0/  else/   v.1 Non/    1/   v.1 Som/    fail")}, {optWorld, impl.Type{}, "(Pair(a,Som(b))|Pair(a,Som(b))) b=1/Pair(_,Som(1))", first("v Pair/ v.1 Non/  fail/ v.1 Som/  0 a=v.0 b=v.1.0/  else/   v.1.0 0/    fail/   v.1.0 1/    1/   v.1.0 2-9/    fail")},
		{listWorld, impl.Type{}, "Cons(a,_) a<3/Cons(a,Nil)", first("v Nil/ fail/v Cons/ 0 a=v.0/ else/  v.1 Nil/   1 a=v.0/  v.1 Cons/   fail")}, {listWorld, impl.Type{}, "e@Cons(c,d@Cons(a,b)) c=1/a", first("v Nil/ 1 a=v/v Cons/ v.1 Nil/  1 a=v/ v.1 Cons/  0 a=v.1.0 b=v.1.1 c=v.0 d=v.1 e=v/  else/   1 a=v")},
	})
}

func TestTreesOfLists(t *testing.T) {
	var list impl.Type
	checkTrees(t, []treeCase{
		{listWorld, list, "Cons(3,a)/_", first("v Nil/ 1/v Cons/ v.0 0-2/  1/ v.0 3/  0 a=v.1/ v.0 4-9/  1")}, {listWorld, list, "Nil", first("v Nil/ 0/v Cons/ fail")}, {listWorld, list, "a@Nil/b@Cons(c,d)", first("v Nil/ 0 a=v/v Cons/ 1 b=v c=v.0 d=v.1")}, {listWorld, list, "Cons(_,Cons(_,Cons(2,_)))", first("v Nil/ fail/v Cons/ v.1 Nil/  fail/ v.1 Cons/  v.1.1 Nil/   fail/  v.1.1 Cons/   v.1.1.0 0-1/    fail/   v.1.1.0 2/    0/   v.1.1.0 3-9/    fail")},
		{listWorld, list, "Cons(5,Nil)/Cons(_,Nil)/_", [picks]string{"v Nil/ 2/v Cons/ v.0 0-4/  v.1 Nil/   1/  v.1 Cons/   2/ v.0 5/  v.1 Nil/   0/  v.1 Cons/   2/ v.0 6-9/  v.1 Nil/   1/  v.1 Cons/   2", "v Nil/ 2/v Cons/ v.1 Nil/  v.0 0-4/   1/  v.0 5/   0/  v.0 6-9/   1/ v.1 Cons/  2", "v Nil/ 2/v Cons/ v.1 Nil/  v.0 0-4/   1/  v.0 5/   0/  v.0 6-9/   1/ v.1 Cons/  2"}},
		// The first row is over before others, and the second one begins with another constructor.
		{listWorld, list, "Cons(_,_)/Nil/_", first("v Nil/ 1/v Cons/ 0")}, {listWorld, list, "(Nil|Cons(0,_))/Cons(0,_)", first("v Nil/ 0/v Cons/ v.0 0/  0/ v.0 1-9/  fail")},
	})
}

func TestChoicesOfColumns(t *testing.T) {
	var pair impl.Type
	checkTrees(t, []treeCase{
		// The new columns come in place of the old one, not behind the others.
		{pairWorld, pair, "Two(Qa(9,_),Qb)", [picks]string{"v Two/ v.0 Qa/  v.0.0 0-8/   fail/  v.0.0 9/   v.1 Qa/    fail/   v.1 Qb/    0/ v.0 Qb/  fail", "", "v Two/ v.0 Qa/  v.0.0 0-8/   fail/  v.0.0 9/   v.1 Qa/    fail/   v.1 Qb/    0/ v.0 Qb/  fail"}},
		{pairWorld, pair, "Two(Qa(1,_),Qb)", [picks]string{"v Two/ v.0 Qa/  v.0.0 0/   fail/  v.0.0 1/   v.1 Qa/    fail/   v.1 Qb/    0/  v.0.0 2-9/   fail/ v.0 Qb/  fail", "", "v Two/ v.0 Qa/  v.1 Qa/   fail/  v.1 Qb/   v.0.0 0/    fail/   v.0.0 1/    0/   v.0.0 2-9/    fail/ v.0 Qb/  fail"}},
		// Most rows test the second part.
		{pairWorld, pair, "Two(Qb,Qb)/Two(_,Qa(_,_))", [picks]string{"v Two/ v.0 Qa/  v.1 Qa/   1/  v.1 Qb/   fail/ v.0 Qb/  v.1 Qa/   1/  v.1 Qb/   0", "v Two/ v.1 Qa/  1/ v.1 Qb/  v.0 Qa/   fail/  v.0 Qb/   0", ""}},
		// The first row does not test what most others do.
		{pairWorld, pair, "Two(Qb,_)/Two(_,Qb)/Two(_,Qb)/Two(_,Qb)", first("v Two/ v.0 Qa/  v.1 Qa/   fail/  v.1 Qb/   1/ v.0 Qb/  0")},
		// Alternatives are rows of their own.
		{pairWorld, pair, "Two(Qb,Qb)/Two(Qb,_)/Two(_,(Qa(1,_)|Qa(2,_)))", [picks]string{"v Two/ v.0 Qa/  v.1 Qa/   v.1.0 0/    fail/   v.1.0 1/    2/   v.1.0 2/    2/   v.1.0 3-9/    fail/  v.1 Qb/   fail/ v.0 Qb/  v.1 Qa/   1/  v.1 Qb/   0", "v Two/ v.1 Qa/  v.0 Qa/   v.1.0 0/    fail/   v.1.0 1/    2/   v.1.0 2/    2/   v.1.0 3-9/    fail/  v.0 Qb/   1/ v.1 Qb/  v.0 Qa/   fail/  v.0 Qb/   0", ""}},
		// Other rows cut the numbers, too.
		{cubeWorld, pair, "Tri(9,5,_)/Tri(1,_,_)", [picks]string{"v Tri/ v.0 0/  fail/ v.0 1/  1/ v.0 2-8/  fail/ v.0 9/  v.1 0-4/   fail/  v.1 5/   0/  v.1 6-9/   fail/v End/ fail", "", "v Tri/ v.1 0-4/  v.0 0/   fail/  v.0 1/   1/  v.0 2-9/   fail/ v.1 5/  v.0 0/   fail/  v.0 1/   1/  v.0 2-8/   fail/  v.0 9/   0/ v.1 6-9/  v.0 0/   fail/  v.0 1/   1/  v.0 2-9/   fail/v End/ fail"}},
		{optWorld, pair, "Pair(Non,Non)/Pair(_,Som(a))/_", [picks]string{"v Pair/ v.0 Non/  v.1 Non/   0/  v.1 Som/   1 a=v.1.0/ v.0 Som/  v.1 Non/   2/  v.1 Som/   1 a=v.1.0", "v Pair/ v.1 Non/  v.0 Non/   0/  v.0 Som/   2/ v.1 Som/  1 a=v.1.0", ""}},
	})
}

func TestTreesWithoutValues(t *testing.T) {
	e := func(i int) impl.Type { return impl.Type{Index: i} }
	const pair = "P=Two(A,A);A=Aa(N)|Ab|Ac(I);N=Never(N)"
	checkTrees(t, []treeCase{
		{neverWorld, e(0), "Tru/Fls", first("v Tru/ 0/v Fls/ 1")}, {neverWorld, e(0), "May(_)/_", first("v Tru/ 1/v Fls/ 1")}, {neverWorld, e(0), "May(a)", first("v Tru/ fail/v Fls/ fail")}, {neverWorld, e(0), "_/May(a)", first("0")}, {neverWorld, e(0), "(May(Never(_))|Fls)", first("v Tru/ fail/v Fls/ 0")}, {neverWorld, impl.Type{Data: 1}, "", first("fail")}, {neverWorld, impl.Type{Data: 1}, "a/Never(_)", first("0 a=v")},
		{pair, e(0), "Two(Aa(_),_)/Two(_,Ac(3))", first("v Two/ v.0 Ab/  v.1 Ab/   fail/  v.1 Ac/   v.1.0 0-2/    fail/   v.1.0 3/    1/   v.1.0 4-9/    fail/ v.0 Ac/  v.1 Ab/   fail/  v.1 Ac/   v.1.0 0-2/    fail/   v.1.0 3/    1/   v.1.0 4-9/    fail")},
		// A branch without values does not count for the choice.
		{"P=Two(B,A);A=Aa|Ab;B=Ba(N)|Bb(N)|Bc;N=Never(N)", e(0), "Two(Bc,Aa)", [picks]string{"v Two/ v.0 Bc/  v.1 Aa/   0/  v.1 Ab/   fail"}}, {"P=Two(A,B);A=Aa|Ab;B=Ba(N)|Bb(N)|Bc;N=Never(N)", e(0), "Two(Aa,Bc)", [picks]string{"v Two/ v.0 Aa/  v.1 Bc/   0/ v.0 Ab/  fail", "", "v Two/ v.1 Bc/  v.0 Aa/   0/  v.0 Ab/   fail"}},
		// What an index leaves out.
		{exprWorld, e(1), "Num(_)/If(Bol(_),_,_)", first("v Num/ 0/v Add/ fail/v If/ v.0 Bol/  1/ v.0 If/  fail")}, {exprWorld, e(2), "If(_,Bol(Tru),_)", first("v Bol/ fail/v If/ v.1 Bol/  v.1.0 Tru/   0/  v.1.0 Fls/   fail/ v.1 If/  fail")}, {exprWorld, e(0), "Bol(a)", first("v Num/ fail/v Bol/ 0 a=v.0/v Add/ fail/v If/ fail")}, {"L=Nil:2|Cons(L*)", e(2), "Cons(Nil)", first("v Nil/ fail/v Cons/ v.0 Nil/  0/ v.0 Cons/  fail")},
		// Values that are too deep to be valid are values of the constructor.
		{deepWorld, e(0), "Hi(_)", first("v Lo/ fail/v Hi/ 0/v Up/ fail")},
	})
}

func TestSwitchWithoutBranches(t *testing.T) {
	never, expr := mustWorld(t, neverWorld), mustWorld(t, exprWorld)
	for pick := range picks {
		for _, c := range []struct {
			w       []impl.Data
			t       impl.Type
			clauses string
		}{{never, impl.Type{Data: 1}, "Never(_)"}, {never, impl.Type{Data: 1}, "Never(Never(a))/_"}, {expr, impl.Type{Index: 3}, "If(_,_,_)"}} {
			x, ok := checkTree(t, rulesOf(c.w), c.t, mustClauses(t, c.w, c.t, c.clauses), pick)
			if !ok || !equalTrees(x, impl.Tree{Op: impl.TreeSwitch}) || impl.TreeSize(x) != 1 || impl.TreeTests(x) != 1 || len(impl.TreeLeaves(x)) != 0 {
				t.Errorf("CompileClauses(%v, %s, %d) = %v, %v", c.t, c.clauses, pick, x, ok)
			}
		}
	}
}

func TestCompileClauses(t *testing.T) {
	w := mustWorld(t, listWorld)
	binds := []impl.PathBind{{Var: 0, Path: []int{1}}, {Var: 2}}
	number := func(n, m int, x impl.Tree) impl.Branch {
		return impl.Branch{Ctor: impl.CtorInt, N: n, M: m, Tree: x}
	}
	inner := impl.Tree{Op: impl.TreeSwitch, Path: []int{0}, Branches: []impl.Branch{number(0, 2, leaf(1)), number(3, 3, leaf(0, binds...)), number(4, 9, leaf(1))}}
	last := leaf(0, impl.PathBind{Var: 1, Path: []int{0}})
	last.Else = []impl.Tree{{}}
	for text, want := range map[string]impl.Tree{"": {}, "_": leaf(0), "b": leaf(0, impl.PathBind{Var: 1}), "c@Cons(3,a)/_": fork(leaf(1), inner), "Cons(b,_) b=2": fork(impl.Tree{}, last), "Nil/Nil/a": fork(leaf(0), leaf(2, impl.PathBind{}))} {
		for pick := range picks {
			x, ok := impl.CompileClauses(w, impl.Type{}, mustClauses(t, w, impl.Type{}, text), pick)
			if !ok || !equalTrees(x, want) {
				t.Errorf("CompileClauses(%s, %d) = %v, %v", text, pick, x, ok)
			}
		}
	}
}

func TestRunTree(t *testing.T) {
	var first impl.Type
	for _, c := range []struct {
		world   string
		t       impl.Type
		clauses string
		value   string
		clause  int
		binds   string
		tests   [picks]int
	}{
		{"", intType, "", "7", -1, "", [3]int{}}, {"", intType, "_", "7", 0, "", [3]int{}}, {"", intType, "e", "7", 0, "e=7", [3]int{}}, {"", intType, "2-5/4-7", "4", 0, "", [3]int{1, 1, 1}}, {"", intType, "2-5/4-7", "6", 1, "", [3]int{1, 1, 1}}, {"", intType, "2-5/4-7", "8", -1, "", [3]int{1, 1, 1}}, {"", intType, "2-5/4-7", "0", -1, "", [3]int{1, 1, 1}},
		// Guards that hold, and that fail.
		{"", intType, "a a<3/5", "2", 0, "a=2", [3]int{}}, {"", intType, "a a<3/5", "5", 1, "", [3]int{1, 1, 1}}, {"", intType, "a a<3/5", "3", -1, "", [3]int{1, 1, 1}}, {"", intType, "a a<3/b b=4/c c<6", "4", 1, "b=4", [3]int{}}, {"", intType, "a a<3/b b=4/c c<6", "5", 2, "c=5", [3]int{}}, {"", intType, "a a<3/b b=4/c c<6", "6", -1, "", [3]int{}}, {"", intType, "(a@1|a) a=2/b", "2", 0, "a=2", [3]int{1, 1, 1}}, {"", intType, "(a@1|a) a=2/b", "1", 1, "b=1", [3]int{1, 1, 1}},
		{listWorld, first, "Cons(3,a)/_", "Cons(3,Nil)", 0, "a=Nil", [3]int{2, 2, 2}}, {listWorld, first, "Cons(3,a)/_", "Cons(4,Nil)", 1, "", [3]int{2, 2, 2}}, {listWorld, first, "Cons(3,a)/_", "Nil", 1, "", [3]int{1, 1, 1}}, {listWorld, first, "f@Cons(c,d@Cons(_,b)) c<3/_", "Cons(1,Cons(2,Nil))", 0, "b=Nil c=1 d=Cons(2,Nil) f=Cons(1,Cons(2,Nil))", [3]int{2, 2, 2}}, {listWorld, first, "f@Cons(c,d@Cons(_,b)) c<3/a", "Cons(3,Cons(2,Nil))", 1, "a=Cons(3,Cons(2,Nil))", [3]int{2, 2, 2}}, {listWorld, first, "Cons(a,_) a<3/Cons(a,Nil)", "Cons(3,Nil)", 1, "a=3", [3]int{2, 2, 2}}, {listWorld, first, "Cons(a,_) a<3/Cons(a,Nil)", "Cons(2,Nil)", 0, "a=2", [3]int{1, 1, 1}}, {listWorld, first, "Cons(a,_) a<3/Cons(a,Nil)", "Cons(3,Cons(0,Nil))", -1, "", [3]int{2, 2, 2}},
		{optWorld, first, "Pair(Non,Non)/Pair(_,Som(a))/_", "Pair(Som(1),Som(2))", 1, "a=2", [3]int{3, 2, 3}}, {optWorld, first, "Pair(Non,Non)/Pair(_,Som(a))/_", "Pair(Som(1),Non)", 2, "", [3]int{3, 3, 3}}, {optWorld, first, "(Pair(Som(a),_)|Pair(_,Som(a))) a<3/Pair(_,Som(b))", "Pair(Som(5),Som(1))", 1, "b=1", [3]int{3, 3, 3}}, {optWorld, first, "(Pair(Som(a),_)|Pair(_,Som(a))) a<3/Pair(_,Som(b))", "Pair(Non,Som(1))", 0, "a=1", [3]int{3, 3, 3}},
		{neverWorld, first, "May(_)/_", "Fls", 1, "", [3]int{1, 1, 1}}, {exprWorld, impl.Type{Index: 1}, "If(_,Num(a),_) a=3/If(b,_,c)", "If(Bol(Tru),Num(4),Num(5))", 1, "b=Bol(Tru) c=Num(5)", [3]int{2, 2, 2}},
	} {
		w, _ := impl.ParseWorld(c.world)
		list := mustClauses(t, w, c.t, c.clauses)
		v := mustValue(t, w, c.t, c.value)
		for pick, tests := range c.tests {
			for runner, run := range runners {
				i, binds, n := run(w, c.t, list, pick, v)
				text := ""
				if i >= 0 {
					text = bindText(w, c.t, list[i].Pat, binds)
				}
				if i != c.clause || text != c.binds || n != tests || i < 0 && len(binds) > 0 {
					t.Errorf("%s(%q, %s, %d, %s) = %d, %s, %d, not %d, %s, %d", runner, c.world, c.clauses, pick, c.value, i, text, n, c.clause, c.binds, tests)
				}
			}
		}
	}
}

// alternatives are texts of patterns for cubeWorld, and whether they have at most 40 alternatives.
func alternatives() map[string]bool {
	return map[string]bool{cube(8, 5, 1): true, "a@" + cube(5, 1, 8): true, "(" + cube(3, 1, 10) + "|" + cube(1, 9, 1) + ")": true, "(" + cube(8, 5, 1) + "|End)": false, cube(7, 6, 1): false, "Tri(_," + spread(slices.Repeat([]string{"1"}, 8)) + "," + spread(slices.Repeat([]string{"_"}, 5)) + ")": true, "Tri(_," + spread(slices.Repeat([]string{"1"}, 9)) + "," + spread(slices.Repeat([]string{"_"}, 5)) + ")": false, cube(10, 10, 4): false, cube(10, 10, 5): false}
}

func TestTreesAtTheLimitOfAlternatives(t *testing.T) {
	w := mustWorld(t, cubeWorld)
	whole := clauseOf(anyPat())
	for text, ok := range alternatives() {
		c := clauseOf(mustPattern(t, w, impl.Type{}, text))
		for pick := range picks {
			// Also a clause that is never reached has too many.
			for _, list := range [][]impl.Clause{{c}, {whole, c}, {c, c, whole, c}} {
				if _, known := checkTree(t, rulesOf(w), impl.Type{}, list, pick); known != ok {
					t.Errorf("CompileClauses(%s, %d) returns %v", impl.FormatClauses(w, impl.Type{}, list), pick, known)
				}
				if !ok {
					checkNoTree(t, text, w, impl.Type{}, list, pick)
				}
			}
		}
	}
}

func TestTreesAtTheLimitOfNodes(t *testing.T) {
	w := mustWorld(t, cubeWorld)
	const odds, evens = "(1|(3|(5|(7|9))))", "(0|(2|(4|(6|8))))"
	// There are 3 nodes above 10 trees of 26 nodes each. A guard that fails adds one for each pair of numbers in front of it.
	base := "Tri(" + odds + "," + odds + ",5)/Tri(" + evens + "," + odds + ",5)"
	for guards, size := range map[string]int{"": 263, "/Tri(a@0-6," + evens + ",_) a<9": 298, "/Tri(a@0-6," + evens + ",_) a<9/Tri(a@7,0,_) a=7": 299, "/Tri(a@0-6," + evens + ",_) a<9/Tri(a@7,(0|2),_) a=7": 300, "/Tri(a@0-6," + evens + ",_) a<9/Tri(a@7,(0|(2|4)),_) a=7": 301, "/Tri(a@0-9," + evens + ",_) a<9": 313} {
		list := mustClauses(t, w, impl.Type{}, base+guards)
		for _, pick := range []int{impl.PickFirst, impl.PickMost} {
			x, ok := checkTree(t, rulesOf(w), impl.Type{}, list, pick)
			if ok != (size <= impl.MaxTree) || ok && impl.TreeSize(x) != size {
				t.Errorf("CompileClauses(%s, %d) has %d nodes, %v", base+guards, pick, impl.TreeSize(x), ok)
			}
			if !ok {
				checkNoTree(t, "too many nodes", w, impl.Type{}, list, pick)
				checkNoRun(t, "too many nodes", w, impl.Type{}, list, pick, made(1))
			}
		}
		// The last part has fewer branches, and there are far fewer nodes if it comes first.
		x, ok := checkTree(t, rulesOf(w), impl.Type{}, list, impl.PickFew)
		if !ok || impl.TreeSize(x) > 296 {
			t.Errorf("CompileClauses(%s, PickFew) has %d nodes, %v", base+guards, impl.TreeSize(x), ok)
		}
	}
	// Without the limit, there would be no end of nodes.
	wide := mustWorld(t, "W=Wi(A,A);A=Aa(B,B,B);B=Ba(I,I,I)")
	row := "Wi(Aa(Ba(1,2,3),Ba(4,5,6),Ba(7,8,9)),Aa(Ba(1,2,3),Ba(4,5,6),Ba(7,8,9)))"
	other := "Wi(Aa(Ba(2,3,4),Ba(5,6,7),Ba(8,9,0)),Aa(Ba(2,3,4),Ba(5,6,7),Ba(8,9,0)))"
	many := "Wi(Aa(Ba(" + odds + ",_,_),Ba(" + evens + ",_,_),_),Aa(Ba(_,3,_),_,_))"
	list := mustClauses(t, wide, impl.Type{}, strings.Join([]string{many, row, other, many, "Wi(_,Aa(Ba(a@1,_,_),_,_))", many}, "/"))
	for pick := range picks {
		if _, ok := checkTree(t, rulesOf(wide), impl.Type{}, list, pick); ok {
			t.Errorf("CompileClauses(%d) returns a tree that has far too many nodes", pick)
		}
	}
}

func TestCountsOfTrees(t *testing.T) {
	strange := fork(leaf(4), withElse(leaf(2), fork(leaf(4))))
	strange.Op = 7
	low := leaf(1)
	low.Op = impl.TreeFail
	for _, c := range []struct {
		x           impl.Tree
		size, tests int
		leaves      []int
	}{
		{impl.Tree{}, 1, 0, nil}, {leaf(3), 1, 0, []int{3}}, {leaf(0), 1, 0, []int{0}}, {leaf(7), 1, 0, []int{7}}, {leaf(8), 1, 0, nil}, {leaf(-1), 1, 0, nil}, {leaf(math.MaxInt), 1, 0, nil}, {leaf(math.MinInt), 1, 0, nil}, {low, 1, 0, nil},
		{fork(leaf(1), leaf(0), leaf(1)), 4, 1, []int{0, 1}}, {fork(fork(leaf(5), impl.Tree{}), leaf(2)), 5, 2, []int{2, 5}}, {fork(leaf(6), fork(leaf(9), fork(leaf(3))), fork(leaf(6))), 8, 3, []int{3, 6}}, {fork(fork(), fork(fork())), 4, 3, nil},
		{withElse(leaf(2), leaf(1)), 2, 0, []int{1, 2}}, {withElse(leaf(2), fork(leaf(2), withElse(leaf(1), fork(leaf(0))))), 6, 2, []int{0, 1, 2}}, {fork(withElse(leaf(0), withElse(leaf(1), impl.Tree{}))), 4, 1, []int{0, 1}},
		// Trees that are not decision trees.
		{withElse(leaf(2), leaf(1), fork(fork(leaf(0)))), 5, 2, []int{0, 1, 2}}, {withElse(impl.Tree{}, leaf(1)), 2, 0, []int{1}}, {strange, 5, 1, []int{2, 4}}, {withElse(fork(leaf(1)), fork(fork(leaf(0)))), 5, 3, []int{0, 1}}, {impl.Tree{Op: math.MinInt, Clause: 3}, 1, 0, nil}, {impl.Tree{Op: 3, Clause: 3, Else: []impl.Tree{leaf(3)}}, 2, 0, []int{3}}, {fork(slices.Repeat([]impl.Tree{leaf(5)}, 5000)...), 5001, 1, []int{5}}, {withElse(impl.Tree{}, slices.Repeat([]impl.Tree{fork()}, 500)...), 501, 1, nil},
	} {
		nodes, tests := treeSizes(c.x)
		if impl.TreeSize(c.x) != c.size || impl.TreeTests(c.x) != c.tests || !slices.Equal(impl.TreeLeaves(c.x), c.leaves) || nodes != c.size || tests != c.tests {
			t.Errorf("TreeSize, TreeTests and TreeLeaves of %v: %d, %d, %v, not %d, %d, %v", c.x, impl.TreeSize(c.x), impl.TreeTests(c.x), impl.TreeLeaves(c.x), c.size, c.tests, c.leaves)
		}
	}
}

func TestCountsOfHugeTrees(t *testing.T) {
	const levels = 300000
	chain := leaf(3)
	for i := range levels {
		chain = fork(chain)
		if i%2 == 0 {
			chain = impl.Tree{Op: impl.TreeLeaf, Clause: i, Else: []impl.Tree{chain}}
		}
	}
	if impl.TreeSize(chain) != levels*3/2+1 || impl.TreeTests(chain) != levels || !slices.Equal(impl.TreeLeaves(chain), []int{0, 2, 3, 4, 6}) {
		t.Errorf("a deep tree: %d, %d, %v", impl.TreeSize(chain), impl.TreeTests(chain), impl.TreeLeaves(chain))
	}
	// Trees whose nodes are too many to be visited one by one, or even to be counted.
	shared := leaf(1)
	for i := 1; i <= 100; i++ {
		shared = fork(shared, shared)
		if i%2 == 0 {
			shared = impl.Tree{Branches: shared.Branches[:1], Else: []impl.Tree{shared.Branches[1].Tree}}
		}
		size := math.MaxInt
		if i < 62 {
			size = 1<<(i+1) - 1
		}
		if impl.TreeSize(shared) != size || impl.TreeTests(shared) != (i+1)/2 || !slices.Equal(impl.TreeLeaves(shared), []int{1}) {
			t.Fatalf("%d levels: %d, %d, %v", i, impl.TreeSize(shared), impl.TreeTests(shared), impl.TreeLeaves(shared))
		}
	}
	kids := []impl.Branch{{Tree: leaf(2)}, {Tree: leaf(5)}, {Tree: fork(leaf(6))}}
	overlap := impl.Tree{Branches: []impl.Branch{{Tree: impl.Tree{Branches: kids[:2]}}, {Tree: impl.Tree{Branches: kids[1:]}}, {Tree: impl.Tree{Op: impl.TreeSwitch, Branches: kids}}}}
	if impl.TreeSize(overlap) != 13 || impl.TreeTests(overlap) != 2 || !slices.Equal(impl.TreeLeaves(overlap), []int{2, 5, 6}) {
		t.Errorf("lists that overlap: %d, %d, %v", impl.TreeSize(overlap), impl.TreeTests(overlap), impl.TreeLeaves(overlap))
	}
}

func TestTreesInsideOfThemselves(t *testing.T) {
	kids := make([]impl.Branch, 2)
	kids[0].Tree = leaf(4)
	kids[1].Tree = impl.Tree{Op: impl.TreeSwitch, Branches: kids}
	rest := make([]impl.Tree, 1)
	rest[0] = impl.Tree{Op: impl.TreeLeaf, Clause: 4, Else: rest}
	for _, x := range []impl.Tree{kids[1].Tree, rest[0], fork(leaf(4), fork(kids[1].Tree)), {Else: []impl.Tree{rest[0], kids[1].Tree}}} {
		// There is no number of nodes, and the leaves are those that are there.
		if impl.TreeSize(x) != 0 || impl.TreeTests(x) != 0 || !slices.Equal(impl.TreeLeaves(x), []int{4}) {
			t.Errorf("a tree inside of itself: %d, %d, %v", impl.TreeSize(x), impl.TreeTests(x), impl.TreeLeaves(x))
		}
	}
}

// checkRuns checks what a tree chooses for values, and returns how many choose a clause, and for how many a guard fails on the way.
func checkRuns(t *testing.T, w []impl.Data, ty impl.Type, list []impl.Clause, pick int, x impl.Tree, values []impl.Value) (chosen, failed int) {
	t.Helper()
	for _, v := range values {
		if !impl.ValueValid(w, ty, v) {
			checkNoRun(t, "too large a value", w, ty, list, pick, v)
			continue
		}
		name := strconv.Quote(impl.FormatWorld(w)) + ": " + impl.FormatClauses(w, ty, list) + " with " + strconv.Itoa(pick) + " for " + impl.FormatValue(w, ty, v)
		i, binds, tests := impl.RunTree(w, ty, list, pick, v)
		want, stand := firstClause(list, v)
		known, others, _ := impl.RunClauses(w, ty, list, v)
		if i != want || !equalBinds(mapOf(binds), stand) || known != want || !equalBinds(mapOf(others), stand) || !slices.IsSortedFunc(binds, func(a, b impl.Bind) int { return a.Var - b.Var }) {
			t.Fatalf("%s: RunTree = %d, %v, and RunClauses = %d, %v, not %d, %v", name, i, binds, known, others, want, stand)
		}
		paths, fails := walked(list, x, v)
		if tests != len(paths) || tests > impl.TreeTests(x) || i >= 0 && !slices.Contains(impl.TreeLeaves(x), i) {
			t.Fatalf("%s: RunTree counts %d tests, not %v", name, tests, paths)
		}
		memory := []impl.Value{v}
		for _, b := range binds {
			memory = append(memory, b.Value)
		}
		if shareMemory(memory) {
			t.Fatalf("%s: what variables stand for shares memory", name)
		}
		if i >= 0 {
			chosen++
		}
		failed += fails
	}
	return chosen, failed
}

// walked are the paths of the TreeSwitch on the way of a value through a tree, and the number of the guards that fail.
func walked(list []impl.Clause, x impl.Tree, v impl.Value) (paths [][]int, fails int) {
	if x.Op == impl.TreeSwitch {
		at := partOf(v, x.Path)
		for _, b := range x.Branches {
			if b.Ctor == at.Ctor && b.N <= at.N && at.N <= b.M {
				paths, fails = walked(list, b.Tree, v)
				return append([][]int{x.Path}, paths...), fails
			}
		}
	}
	if x.Op == impl.TreeLeaf && len(x.Else) > 0 {
		g := list[x.Clause].Guard
		for _, b := range x.Binds {
			if b.Var == g.Var && !holds(g, partOf(v, b.Path).N) {
				paths, fails = walked(list, x.Else[0], v)
				return paths, fails + 1
			}
		}
	}
	return nil, 0
}

// partOf is the part of a value at a path.
func partOf(v impl.Value, path []int) impl.Value {
	for _, i := range path {
		v = v.Kids[i]
	}
	return v
}

// holds reports whether a number is less than that of a guard, or equal to it.
func holds(g impl.Guard, n int) bool {
	return g.Op == impl.GuardLess && n < g.N || g.Op == impl.GuardEqual && n == g.N
}

func TestRandomTrees(t *testing.T) {
	r := rand.New(rand.NewPCG(28, 28))
	invalid, unknown, different, deep, chosen, failed := 0, 0, 0, 0, 0, 0
	for range 1600 {
		w, ty := randomUsed(r)
		list := randomCover(r, w, ty)
		if r.IntN(20) == 0 {
			list = changedClauses(r, list)
		}
		if !impl.ClausesValid(w, ty, list) {
			invalid++
			checkNoTree(t, "not valid", w, ty, list, r.IntN(picks))
			continue
		}
		x := rulesOf(w)
		values := matchingValues(r, w, ty, list, nil)
		var trees []impl.Tree
		for pick := range picks {
			tree, ok := checkTree(t, x, ty, list, pick)
			if !ok {
				unknown++
				checkNoTree(t, "too large", w, ty, list, pick)
				continue
			}
			trees = append(trees, tree)
			more, fails := checkRuns(t, w, ty, list, pick, tree, values)
			chosen, failed = chosen+more, failed+fails
			if impl.TreeTests(tree) > 3 {
				deep++
			}
			if !equalTrees(tree, trees[0]) {
				different++
			}
		}
	}
	if invalid < 60 || unknown < 30 || different < 120 || deep < 300 || chosen < 60000 || failed < 1000 {
		t.Errorf("only %d lists are not valid, %d trees are too large, %d are different from others, %d have many tests, %d values choose a clause, %d guards fail", invalid, unknown, different, deep, chosen, failed)
	}
}

// randomGuarded are clauses with variables, and most of them with guards.
func randomGuarded(r *rand.Rand, w []impl.Data, ty impl.Type) []impl.Clause {
	var list []impl.Clause
	for range 2 + r.IntN(6) {
		// Many clauses that match the same values, and in which a variable stands for a number.
		p := randomPattern(r, w, ty, 1+r.IntN(4), []int{0, 1, 2, 3, 4, 5}[r.IntN(3):])
		if g := randomGuard(r, w, ty, p); g.Op != 0 || r.IntN(3) == 0 {
			list = append(list, guarded(p, g))
		}
	}
	return list
}

func TestRandomTreesWithGuards(t *testing.T) {
	r := rand.New(rand.NewPCG(29, 29))
	chosen, failed := 0, 0
	for range 1500 {
		w, ty := randomUsed(r)
		list := randomGuarded(r, w, ty)
		if !impl.ClausesValid(w, ty, list) {
			continue
		}
		pick := r.IntN(picks)
		if tree, ok := checkTree(t, rulesOf(w), ty, list, pick); ok {
			more, fails := checkRuns(t, w, ty, list, pick, tree, matchingValues(r, w, ty, list, nil))
			chosen, failed = chosen+more, failed+fails
		}
	}
	if chosen < 15000 || failed < 2000 {
		t.Errorf("only %d values choose a clause, %d guards fail", chosen, failed)
	}
}

func TestTreesLeaveArguments(t *testing.T) {
	w := mustWorld(t, optWorld)
	text := "f@Pair((a@Som(b@(1|2))|a@Som(b)),(Non|Som(_))) b<5/Pair(Som((1|2)),_)/Pair(Som(1),_)/Pair(_,Som(d)) d=3"
	spare := append(mustClauses(t, w, impl.Type{}, text), guarded(varPat(5), equal(5, 5)))
	list := spare[:4]
	v := mustValue(t, w, impl.Type{}, "Pair(Som(1),Som(3))")
	for pick := range picks {
		x, ok := impl.CompileClauses(w, impl.Type{}, list, pick)
		same, _ := impl.CompileClauses(w, impl.Type{}, list, pick)
		lines := impl.FormatTree(w, impl.Type{}, list, pick)
		i, binds, _ := impl.RunTree(w, impl.Type{}, list, pick, v)
		known := map[any]bool{}
		if !ok || treeMemory(x, known) || treeMemory(same, known) || i != 0 || len(binds) != 3 || lines == "" {
			t.Errorf("CompileClauses(%d) = %v, %v; RunTree = %d, %v", pick, x, ok, i, binds)
		}
		size, tests, leaves := impl.TreeSize(x), impl.TreeTests(x), impl.TreeLeaves(x)
		if !equalTrees(x, same) || size < 10 || tests < 3 || len(leaves) < 3 {
			t.Errorf("counting changes a tree, or its counts are wrong: %d, %d, %v", size, tests, leaves)
		}
		// What is written into results is not seen in arguments, and not in later results.
		for _, b := range binds {
			for i := range b.Value.Kids {
				b.Value.Kids[i].Ctor = 99
			}
		}
		x.Branches[0].Tree.Path[0] = 99
		leaves[0] = 99
		if again, _ := impl.CompileClauses(w, impl.Type{}, list, pick); !equalTrees(again, same) || impl.TreeLeaves(same)[0] == 99 {
			t.Errorf("later results of %d are changed", pick)
		}
	}
	if impl.FormatClauses(w, impl.Type{}, list) != text || spare[4].Guard != equal(5, 5) || impl.FormatWorld(w) != optWorld || impl.FormatValue(w, impl.Type{}, v) != "Pair(Som(1),Som(3))" {
		t.Errorf("arguments are changed: %v, %v", spare, v)
	}
}
