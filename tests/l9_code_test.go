package tests

import (
	"fmt"
	"maps"
	"math"
	"math/rand/v2"
	"slices"
	"strings"
	"testing"

	"loop.example/matchcompiler/impl"
)

func equalSteps(a, b []impl.Step) bool {
	sameBind := func(x, y impl.PathBind) bool { return x.Var == y.Var && slices.Equal(x.Path, y.Path) }
	return slices.EqualFunc(a, b, func(x, y impl.Step) bool {
		same := x.Op == y.Op && x.Ctor == y.Ctor && x.N == y.N && x.M == y.M && x.Clause == y.Clause && x.To == y.To
		return same && slices.Equal(x.Path, y.Path) && slices.EqualFunc(x.Binds, y.Binds, sameBind)
	})
}

// stepMemory reports whether lists of code have a place in common with each other or with what is known.
func stepMemory(code []impl.Step, known map[any]bool) bool {
	shared := taken(code, known)
	for _, step := range code {
		shared = taken(step.Path, known) || taken(step.Binds, known) || shared
		for _, b := range step.Binds {
			shared = taken(b.Path, known) || shared
		}
	}
	return shared
}

// pathsMemory reports whether paths have a place in common with each other or with what is known.
func pathsMemory(paths [][]int, known map[any]bool) bool {
	shared := taken(paths, known)
	for _, path := range paths {
		shared = taken(path, known) || shared
	}
	return shared
}

// pathOf is the text of a path.
func pathOf(path []int) string {
	text := "v"
	for _, place := range path {
		text += fmt.Sprint(".", place)
	}
	return text
}

// pathTexts are the texts of paths, separated by spaces.
func pathTexts(paths [][]int) string {
	var texts []string
	for _, path := range paths {
		texts = append(texts, pathOf(path))
	}
	return strings.Join(texts, " ")
}

// choice is a pattern without alternatives: its PatInt and PatCtor, and its variables, with the texts of their paths.
type choice struct {
	tests map[string]impl.Pattern
	vars  map[int]string
}

// choicesOf are those for which a pattern stands.
func choicesOf(p impl.Pattern) []choice {
	var list []choice
	for _, p := range chosen(p, nil) {
		c := choice{tests: map[string]impl.Pattern{}, vars: map[int]string{}}
		c.walk(p, "v")
		list = append(list, c)
	}
	return list
}

func (c choice) walk(p impl.Pattern, path string) {
	switch p.Op {
	case impl.PatVar:
		c.vars[p.Var] = path
	case impl.PatAs:
		c.vars[p.Var] = path
		c.walk(p.Kids[0], path)
	case impl.PatInt, impl.PatCtor:
		c.tests[path] = p
		for i, kid := range p.Kids {
			c.walk(kid, fmt.Sprint(path, ".", i))
		}
	}
}

// paths are those of the tests: a path comes before those that begin with it, and they before the next one beside it.
func (c choice) paths() []string { return slices.Sorted(maps.Keys(c.tests)) }

// codeOf is the code of valid clauses, and whether there is one.
func codeOf(list []impl.Clause) ([]impl.Step, bool) {
	var code []impl.Step
	for i, c := range list {
		choices := choicesOf(c.Pat)
		if len(choices) > 40 {
			return nil, false
		}
		end := len(code)
		for _, choice := range choices {
			end += len(choice.tests) + 1
		}
		for _, choice := range choices {
			behind := len(code) + len(choice.tests) + 1
			for _, path := range choice.paths() {
				p := choice.tests[path]
				step := impl.Step{Op: 1, Path: placeOf(path), Ctor: p.Ctor, N: p.N, M: p.M, To: behind}
				if p.Op == impl.PatInt {
					step.Ctor = -1
				}
				code = append(code, step)
			}
			take := impl.Step{Op: 2, Clause: i, To: end}
			for _, v := range slices.Sorted(maps.Keys(choice.vars)) {
				take.Binds = append(take.Binds, impl.PathBind{Var: v, Path: placeOf(choice.vars[v])})
			}
			code = append(code, take)
		}
	}
	return append(code, impl.Step{Op: 3}), true
}

// testsFor are the paths of the tests that code executes for a value, those of all parts that it uses, and the number of the guards that fail.
func testsFor(list []impl.Clause, v impl.Value) (tested, used [][]int, fails int) {
	for _, c := range list {
		for _, choice := range choicesOf(c.Pat) {
			passed := true
			for _, path := range choice.paths() {
				p, part := choice.tests[path], partOf(v, placeOf(path))
				tested, used = append(tested, placeOf(path)), append(used, placeOf(path))
				isNumber := p.Op == impl.PatInt && p.N <= part.N && part.N <= p.M
				if !isNumber && (p.Op == impl.PatInt || p.Ctor != part.Ctor) {
					passed = false
					break
				}
			}
			if !passed {
				continue
			}
			if c.Guard.Op == 0 {
				return tested, used, fails
			}
			path := placeOf(choice.vars[c.Guard.Var])
			used = append(used, path)
			if holds(c.Guard, partOf(v, path).N) {
				return tested, used, fails
			}
			fails++
			break
		}
	}
	return tested, used, fails
}

// stepLines are the lines of code.
func stepLines(code []impl.Step) string {
	var text strings.Builder
	for _, step := range code {
		switch {
		case step.Op == 1 && step.Ctor == -1:
			fmt.Fprintf(&text, "test %s %d-%d %d\n", pathOf(step.Path), step.N, step.M, step.To)
		case step.Op == 1:
			fmt.Fprintf(&text, "test %s #%d %d\n", pathOf(step.Path), step.Ctor, step.To)
		case step.Op == 2:
			fmt.Fprintf(&text, "take %d ", step.Clause)
			for _, b := range step.Binds {
				fmt.Fprintf(&text, "%d=%s ", b.Var, pathOf(b.Path))
			}
			fmt.Fprintf(&text, "%d\n", step.To)
		default:
			text.WriteString("fail\n")
		}
	}
	return text.String()
}

// eachOnce are paths without those that are equal to earlier ones.
func eachOnce(paths [][]int) [][]int {
	var list [][]int
	for _, path := range paths {
		if !contains(list, path) {
			list = append(list, path)
		}
	}
	return list
}

func contains(paths [][]int, path []int) bool {
	return slices.ContainsFunc(paths, func(other []int) bool { return slices.Equal(other, path) })
}

// checkNoCode checks that there is no code of clauses.
func checkNoCode(t *testing.T, name string, w []impl.Data, ty impl.Type, list []impl.Clause) {
	t.Helper()
	if code, ok := impl.CompileSteps(w, ty, list); ok || len(code) != 0 {
		t.Errorf("%s: CompileSteps(%v, %d clauses) = %v, %v", name, ty, len(list), code, ok)
	}
	for _, v := range []impl.Value{number(0), number(3), made(0), made(1, number(0), made(0))} {
		checkNoSteps(t, name, w, ty, list, v)
	}
}

// checkNoSteps checks that no code runs for a value.
func checkNoSteps(t *testing.T, name string, w []impl.Data, ty impl.Type, list []impl.Clause, v impl.Value) {
	t.Helper()
	if i, binds, tests := impl.RunSteps(w, ty, list, v); i != -1 || len(binds) != 0 || tests != -1 {
		t.Errorf("%s: RunSteps(%v, %d clauses) = %d, %v, %d", name, ty, len(list), i, binds, tests)
	}
	if paths := impl.TestedPaths(w, ty, list, v); len(paths) != 0 {
		t.Errorf("%s: TestedPaths(%v, %d clauses) = %v", name, ty, len(list), paths)
	}
}

// checkCode checks the code of valid clauses against the rules, and returns it.
func checkCode(t *testing.T, w []impl.Data, ty impl.Type, list []impl.Clause) ([]impl.Step, bool) {
	t.Helper()
	name := fmt.Sprintf("%q: %s", impl.FormatWorld(w), impl.FormatClauses(w, ty, list))
	code, ok := impl.CompileSteps(w, ty, list)
	want, has := codeOf(list)
	if ok != has || !equalSteps(code, want) {
		t.Fatalf("%s: CompileSteps = %v, %v, not %v, %v", name, code, ok, want, has)
	}
	if text := impl.FormatSteps(code); text != stepLines(want) {
		t.Fatalf("%s: FormatSteps =\n%snot\n%s", name, text, stepLines(want))
	}
	if stepMemory(code, map[any]bool{}) {
		t.Fatalf("%s: two lists of the code share memory", name)
	}
	return code, ok
}

// checkSteps checks what code chooses and tests for values, and returns how many choose a clause, and for how many a guard fails on the way.
func checkSteps(t *testing.T, w []impl.Data, ty impl.Type, list []impl.Clause, values []impl.Value) (chosen, failed int) {
	t.Helper()
	for _, v := range values {
		if !impl.ValueValid(w, ty, v) {
			checkNoSteps(t, "too large a value", w, ty, list, v)
			continue
		}
		name := fmt.Sprintf("%q: %s for %s", impl.FormatWorld(w), impl.FormatClauses(w, ty, list), impl.FormatValue(w, ty, v))
		i, binds, tests := impl.RunSteps(w, ty, list, v)
		want, stand := firstClause(list, v)
		known, others, _ := impl.RunClauses(w, ty, list, v)
		if i != want || !equalBinds(mapOf(binds), stand) || known != want || !equalBinds(mapOf(others), stand) || !slices.IsSortedFunc(binds, func(a, b impl.Bind) int { return a.Var - b.Var }) {
			t.Fatalf("%s: RunSteps = %d, %v, and RunClauses = %d, %v, not %d, %v", name, i, binds, known, others, want, stand)
		}
		executed, _, fails := testsFor(list, v)
		paths := impl.TestedPaths(w, ty, list, v)
		if tests != len(executed) || pathTexts(paths) != pathTexts(eachOnce(executed)) {
			t.Fatalf("%s: RunSteps counts %d tests, and TestedPaths = %v, not %v", name, tests, paths, executed)
		}
		memory := []impl.Value{v}
		for _, b := range binds {
			memory = append(memory, b.Value)
		}
		if shareMemory(memory) || pathsMemory(paths, map[any]bool{}) {
			t.Fatalf("%s: results share memory", name)
		}
		if i >= 0 {
			chosen++
		}
		failed += fails
	}
	return chosen, failed
}

// checkLess checks that the tree for PickFirst tests parts that code tests, too, and returns how many it leaves out, and how many tests code repeats.
func checkLess(t *testing.T, w []impl.Data, ty impl.Type, list []impl.Clause, values []impl.Value) (left, repeated int) {
	t.Helper()
	x, ok := impl.CompileClauses(w, ty, list, impl.PickFirst)
	for _, v := range values {
		if !ok || !impl.ValueValid(w, ty, v) {
			continue
		}
		name := fmt.Sprintf("%q: %s for %s", impl.FormatWorld(w), impl.FormatClauses(w, ty, list), impl.FormatValue(w, ty, v))
		want, stand, fewer := impl.RunTree(w, ty, list, impl.PickFirst, v)
		i, binds, tests := impl.RunSteps(w, ty, list, v)
		if i != want || !equalBinds(mapOf(binds), mapOf(stand)) || tests < fewer {
			t.Fatalf("%s: RunSteps = %d, %v, %d, and RunTree = %d, %v, %d", name, i, binds, tests, want, stand, fewer)
		}
		paths := impl.TestedPaths(w, ty, list, v)
		tested, _ := walked(list, x, v)
		for _, path := range tested {
			if !contains(paths, path) {
				t.Fatalf("%s: the tree tests %v, and the code %v", name, tested, paths)
			}
		}
		left, repeated = left+len(paths)-len(tested), repeated+tests-len(paths)
	}
	return left, repeated
}

func TestCodeOfInvalidClauses(t *testing.T) {
	eachInvalidClauses(t, func(name string, w []impl.Data, ty impl.Type, list []impl.Clause) { checkNoCode(t, name, w, ty, list) })
	checkCode(t, mustWorld(t, listWorld), impl.Type{}, slices.Repeat([]impl.Clause{clauseOf(anyPat())}, 8))
}

func TestCodeForInvalidValues(t *testing.T) {
	w := mustWorld(t, listWorld)
	deep := mustValue(t, w, impl.Type{}, nested(10))
	for _, text := range []string{"", "_", "a", "Nil", "Cons(3,a)/_", "Cons(a,_) a<3/Nil"} {
		list := mustClauses(t, w, impl.Type{}, text)
		for _, v := range notLists(deep) {
			checkNoSteps(t, text, w, impl.Type{}, list, v)
		}
		checkSteps(t, w, impl.Type{}, list, []impl.Value{deep})
	}
	expr := mustWorld(t, exprWorld)
	num := mustValue(t, expr, impl.Type{}, "Num(3)")
	checkNoSteps(t, "another index", expr, impl.Type{Index: 2}, mustClauses(t, expr, impl.Type{Index: 2}, "_"), num)
}

func TestCodeAtTheLimitOfAlternatives(t *testing.T) {
	w := mustWorld(t, cubeWorld)
	whole := clauseOf(anyPat())
	for text, ok := range alternatives() {
		c := clauseOf(mustPattern(t, w, impl.Type{}, text))
		// Also a clause that is never reached has too many.
		for _, list := range [][]impl.Clause{{c}, {whole, c}, {c, c, whole, c}, slices.Repeat([]impl.Clause{c}, 8)} {
			if _, known := checkCode(t, w, impl.Type{}, list); known != ok {
				t.Errorf("CompileSteps(%s) returns %v", impl.FormatClauses(w, impl.Type{}, list), known)
			}
			if !ok {
				checkNoCode(t, text, w, impl.Type{}, list)
				checkNoSteps(t, text, w, impl.Type{}, list, made(1))
			}
		}
	}
	// There is code for trees that have too many nodes, and no limit of steps.
	const odds, evens = "(1|(3|(5|(7|9))))", "(0|(2|(4|(6|8))))"
	list := mustClauses(t, w, impl.Type{}, "Tri("+odds+","+odds+",5)/Tri("+evens+","+odds+",5)/Tri(a@0-9,"+evens+",_) a<9")
	code, ok := checkCode(t, w, impl.Type{}, list)
	if _, known := impl.CompileClauses(w, impl.Type{}, list, impl.PickFirst); known || !ok || len(code) != 271 {
		t.Errorf("CompileSteps has %d steps, %v, and CompileClauses returns %v", len(code), ok, known)
	}
	checkSteps(t, w, impl.Type{}, list, []impl.Value{made(1), mustValue(t, w, impl.Type{}, "Tri(8,9,5)"), mustValue(t, w, impl.Type{}, "Tri(9,8,5)"), mustValue(t, w, impl.Type{}, "Tri(3,8,1)")})
}

func TestCodeOfClauses(t *testing.T) {
	var first impl.Type
	for _, c := range []struct {
		world   string
		t       impl.Type
		clauses string
		lines   string // with a slash in place of each line break
	}{
		// No clauses, and patterns without tests.
		{"", intType, "", "fail"}, {listWorld, first, "", "fail"}, {"", intType, "_", "take 0 1/fail"}, {"", intType, "c", "take 0 2=v 1/fail"}, {"", intType, "_/a/_", "take 0 1/take 1 0=v 2/take 2 3/fail"}, {"", intType, "f@b@a@e", "take 0 0=v 1=v 4=v 5=v 1/fail"},
		{"", intType, "3", "test v 3-3 2/take 0 2/fail"}, {"", intType, "0-9/2-5", "test v 0-9 2/take 0 2/test v 2-5 4/take 1 4/fail"}, {"", intType, "a@3/b", "test v 3-3 2/take 0 0=v 2/take 1 1=v 3/fail"},
		// Alternatives.
		{"", intType, "(1|8)/_", "test v 1-1 2/take 0 4/test v 8-8 4/take 0 4/take 1 5/fail"}, {"", intType, "(_|3)/_", "take 0 3/test v 3-3 3/take 0 3/take 1 4/fail"}, {"", intType, "(_|(_|_))", "take 0 3/take 0 3/take 0 3/fail"}, {"", intType, "(3|3)/3", "test v 3-3 2/take 0 4/test v 3-3 4/take 0 4/test v 3-3 6/take 1 6/fail"}, {"", intType, "f@b@(a@e@2|a@e)", "test v 2-2 2/take 0 0=v 1=v 4=v 5=v 3/take 0 0=v 1=v 4=v 5=v 3/fail"}, {"", intType, "(a@1|a) a=2/b", "test v 1-1 2/take 0 0=v 3/take 0 0=v 3/take 1 1=v 4/fail"},
		{listWorld, first, "Cons(3,a)/_", "test v #1 3/test v.0 3-3 3/take 0 0=v.1 3/take 1 4/fail"}, {listWorld, first, "Nil", "test v #0 2/take 0 2/fail"}, {listWorld, first, "Cons(_,Cons(_,Cons(2,_)))", "test v #1 5/test v.1 #1 5/test v.1.1 #1 5/test v.1.1.0 2-2 5/take 0 5/fail"}, {listWorld, first, "e@Cons(c,d@Cons(a,b)) c=1/a", "test v #1 3/test v.1 #1 3/take 0 0=v.1.0 1=v.1.1 2=v.0 3=v.1 4=v 3/take 1 0=v 4/fail"}, {listWorld, first, "(Cons(a,Nil)|Cons(_,Cons(a,_))) a<3/Cons(1,_)/Cons(1,Nil)", "test v #1 3/test v.1 #0 3/take 0 0=v.0 6/test v #1 6/test v.1 #1 6/take 0 0=v.1.0 6/test v #1 9/test v.0 1-1 9/take 1 9/test v #1 13/test v.0 1-1 13/test v.1 #0 13/take 2 13/fail"},
		// The choices for the first one of the Kids vary slowest.
		{listWorld, first, "Cons((1|2),(Nil|Cons(_,_)))/Nil", "test v #1 4/test v.0 1-1 4/test v.1 #0 4/take 0 16/test v #1 8/test v.0 1-1 8/test v.1 #1 8/take 0 16/test v #1 12/test v.0 2-2 12/test v.1 #0 12/take 0 16/test v #1 16/test v.0 2-2 16/test v.1 #1 16/take 0 16/test v #0 18/take 1 18/fail"},
		// What is below a part comes before what is beside it.
		{pairWorld, first, "Two(Qa(1,2-3),Qa(4,5))", "test v #0 8/test v.0 #0 8/test v.0.0 1-1 8/test v.0.1 2-3 8/test v.1 #0 8/test v.1.0 4-4 8/test v.1.1 5-5 8/take 0 8/fail"}, {pairWorld, first, "Two(b,Qb)/Two(Qb,a@Qa(_,c))", "test v #0 3/test v.1 #1 3/take 0 1=v.0 3/test v #0 7/test v.0 #1 7/test v.1 #0 7/take 1 0=v.1 2=v.1.1 7/fail"},
		// Constructors without values are tested, too.
		{neverWorld, first, "May(_)/_", "test v #2 2/take 0 2/take 1 3/fail"}, {neverWorld, impl.Type{Data: 1}, "Never(_)", "test v #0 2/take 0 2/fail"}, {exprWorld, impl.Type{Index: 1}, "If(_,Num(a),_) a=3/Num(2)", "test v #3 3/test v.1 #0 3/take 0 0=v.1.0 3/test v #0 6/test v.0 2-2 6/take 1 6/fail"},
	} {
		w, _ := impl.ParseWorld(c.world)
		code, ok := checkCode(t, w, c.t, mustClauses(t, w, c.t, c.clauses))
		if text := impl.FormatSteps(code); !ok || text != strings.ReplaceAll(c.lines, "/", "\n")+"\n" {
			t.Errorf("the code of %s is\n%snot\n%s", c.clauses, text, c.lines)
		}
	}
}

func TestCompileSteps(t *testing.T) {
	w := mustWorld(t, listWorld)
	test := func(ctor, n, m, to int, path ...int) impl.Step {
		return impl.Step{Op: impl.StepTest, Path: path, Ctor: ctor, N: n, M: m, To: to}
	}
	bind := func(v int, path ...int) impl.PathBind { return impl.PathBind{Var: v, Path: path} }
	take := func(clause, to int, binds ...impl.PathBind) impl.Step {
		return impl.Step{Op: impl.StepTake, Clause: clause, Binds: binds, To: to}
	}
	fail := impl.Step{Op: impl.StepFail}
	for text, want := range map[string][]impl.Step{
		"":                {fail},
		"_":               {take(0, 1), fail},
		"c@Cons(3,a)/_":   {test(1, 0, 0, 3), test(impl.CtorInt, 3, 3, 3, 0), take(0, 3, bind(0, 1), bind(2)), take(1, 4), fail},
		"Cons(b,_) b=2":   {test(1, 0, 0, 2), take(0, 2, bind(1, 0)), fail},
		"Nil/Nil/a":       {test(0, 0, 0, 2), take(0, 2), test(0, 0, 0, 4), take(1, 4), take(2, 5, bind(0)), fail},
		"(Nil|Cons(_,_))": {test(0, 0, 0, 2), take(0, 4), test(1, 0, 0, 4), take(0, 4), fail},
	} {
		code, ok := impl.CompileSteps(w, impl.Type{}, mustClauses(t, w, impl.Type{}, text))
		if !ok || !equalSteps(code, want) {
			t.Errorf("CompileSteps(%s) = %v, %v, not %v", text, code, ok, want)
		}
	}
}

func TestRunSteps(t *testing.T) {
	var first impl.Type
	const either = "(Cons(a,Nil)|Cons(_,Cons(a,_))) a<3/Cons(1,_)/Cons(1,Nil)"
	for _, c := range []struct {
		world   string
		t       impl.Type
		clauses string
		value   string
		clause  int
		binds   string
		tests   int
		paths   string
	}{
		{"", intType, "", "7", -1, "", 0, ""}, {listWorld, first, "", "Nil", -1, "", 0, ""}, {"", intType, "_", "7", 0, "", 0, ""}, {"", intType, "e/7", "7", 0, "e=7", 0, ""}, {"", intType, "2-5/4-7", "4", 0, "", 1, "v"}, {"", intType, "2-5/4-7", "2", 0, "", 1, "v"}, {"", intType, "2-5/4-7", "5", 0, "", 1, "v"}, {"", intType, "2-5/4-7", "6", 1, "", 2, "v"}, {"", intType, "2-5/4-7", "1", -1, "", 2, "v"}, {"", intType, "2-5/4-7", "8", -1, "", 2, "v"}, {"", intType, "0-9/_", "0", 0, "", 1, "v"}, {"", intType, "0-9/_", "9", 0, "", 1, "v"},
		// Guards that hold, and that fail.
		{"", intType, "a a<3/5", "2", 0, "a=2", 0, ""}, {"", intType, "a a<3/5", "3", -1, "", 1, "v"}, {"", intType, "a a<3/5", "5", 1, "", 1, "v"}, {"", intType, "a a<3/b b=4/c c<6", "4", 1, "b=4", 0, ""}, {"", intType, "a a<3/b b=4/c c<6", "6", -1, "", 0, ""},
		// Where a guard fails, other alternatives are not tried.
		{"", intType, "(a@1|a) a=2/b", "2", 0, "a=2", 1, "v"}, {"", intType, "(a@1|a) a=2/b", "1", 1, "b=1", 1, "v"}, {"", intType, "(a|a@3) a<3/b@3", "3", 1, "b=3", 1, "v"}, {"", intType, "(a|a@3) a<3", "3", -1, "", 0, ""}, {optWorld, first, "(Pair(Som(a),_)|Pair(_,Som(a))) a<3/Pair(_,Som(b))", "Pair(Som(5),Som(1))", 1, "b=1", 4, "v v.0 v.1"}, {optWorld, first, "(Pair(Som(a),_)|Pair(_,Som(a))) a<3/_", "Pair(Som(5),Som(1))", 1, "", 2, "v v.0"}, {optWorld, first, "(Pair(Som(a),_)|Pair(_,Som(a))) a<3/_", "Pair(Non,Som(1))", 0, "a=1", 4, "v v.0 v.1"},
		{listWorld, first, either, "Cons(4,Cons(7,Nil))", -1, "", 8, "v v.1 v.0"}, {listWorld, first, either, "Cons(2,Nil)", 0, "a=2", 2, "v v.1"}, {listWorld, first, either, "Cons(4,Cons(2,Nil))", 0, "a=2", 4, "v v.1"}, {listWorld, first, either, "Cons(1,Cons(3,Nil))", 1, "", 6, "v v.1 v.0"}, {listWorld, first, either, "Cons(4,Nil)", -1, "", 6, "v v.1 v.0"}, {listWorld, first, either, "Nil", -1, "", 4, "v"},
		{listWorld, first, "Cons(3,a)/_", "Cons(3,Nil)", 0, "a=Nil", 2, "v v.0"}, {listWorld, first, "Cons(3,a)/_", "Cons(4,Nil)", 1, "", 2, "v v.0"}, {listWorld, first, "Cons(3,a)/_", "Nil", 1, "", 1, "v"}, {listWorld, first, "f@Cons(c,d@Cons(_,b)) c<3/_", "Cons(1,Cons(2,Nil))", 0, "b=Nil c=1 d=Cons(2,Nil) f=Cons(1,Cons(2,Nil))", 2, "v v.1"}, {listWorld, first, "f@Cons(c,d@Cons(_,b)) c<3/a", "Cons(3,Cons(2,Nil))", 1, "a=Cons(3,Cons(2,Nil))", 2, "v v.1"},
		// A part is tested each time, also after a test that tells its constructor.
		{optWorld, first, "Pair(Non,Non)/Pair(_,Som(a))/_", "Pair(Som(1),Som(2))", 1, "a=2", 4, "v v.0 v.1"}, {optWorld, first, "Pair(Non,Non)/Pair(_,Som(a))/_", "Pair(Som(1),Non)", 2, "", 4, "v v.0 v.1"}, {optWorld, first, "Pair(Non,Non)/Pair(_,Som(a))/_", "Pair(Non,Non)", 0, "", 3, "v v.0 v.1"}, {optWorld, first, "Pair(Non,Non)/Pair(Non,Som(_))/Pair(Som(_),_)", "Pair(Som(1),Non)", 2, "", 6, "v v.0"}, {optWorld, first, "Pair(_,Non)/Pair(Non,_)/_", "Pair(Som(1),Som(2))", 2, "", 4, "v v.1 v.0"},
		{neverWorld, first, "May(_)/_", "Fls", 1, "", 1, "v"}, {exprWorld, impl.Type{Index: 1}, "If(_,Num(a),_) a=3/If(b,_,c)", "If(Bol(Tru),Num(4),Num(5))", 1, "b=Bol(Tru) c=Num(5)", 3, "v v.1"},
	} {
		w, _ := impl.ParseWorld(c.world)
		list := mustClauses(t, w, c.t, c.clauses)
		v := mustValue(t, w, c.t, c.value)
		i, binds, tests := impl.RunSteps(w, c.t, list, v)
		text := ""
		if i >= 0 {
			text = bindText(w, c.t, list[i].Pat, binds)
		}
		if i != c.clause || text != c.binds || tests != c.tests || i < 0 && len(binds) > 0 {
			t.Errorf("RunSteps(%q, %s, %s) = %d, %s, %d, not %d, %s, %d", c.world, c.clauses, c.value, i, text, tests, c.clause, c.binds, c.tests)
		}
		if paths := pathTexts(impl.TestedPaths(w, c.t, list, v)); paths != c.paths {
			t.Errorf("TestedPaths(%q, %s, %s) = %s, not %s", c.world, c.clauses, c.value, paths, c.paths)
		}
		checkSteps(t, w, c.t, list, []impl.Value{v})
		checkLess(t, w, c.t, list, []impl.Value{v})
	}
}

func TestFormatSteps(t *testing.T) {
	bind := func(v int, path ...int) impl.PathBind { return impl.PathBind{Var: v, Path: path} }
	const least, most = "-9223372036854775808", "9223372036854775807"
	full := impl.Step{Path: []int{1, 2}, Ctor: 3, N: 4, M: 5, Clause: 6, Binds: []impl.PathBind{bind(7, 8)}, To: 9}
	as := func(op, ctor int) impl.Step {
		step := full
		step.Op, step.Ctor = op, ctor
		return step
	}
	for want, step := range map[string]impl.Step{
		"test v #0 0": {Op: 1}, "test v 0-0 0": {Op: 1, Ctor: -1}, "test v.1.2 #3 9": as(1, 3), "test v.1.2 4-5 9": as(1, -1), "test v.1.2 #-2 9": as(1, -2), "test v.-1.10.0 7--3 -1": {Op: 1, Path: []int{-1, 10, 0}, Ctor: -1, N: 7, M: -3, To: -1},
		"test v." + most + " " + least + "-" + least + " " + most: {Op: 1, Path: []int{math.MaxInt}, Ctor: -1, N: math.MinInt, M: math.MinInt, To: math.MaxInt}, "test v #" + least + " " + least: {Op: 1, Ctor: math.MinInt, N: 3, To: math.MinInt}, "test v #" + most + " 8": {Op: 1, Ctor: math.MaxInt, To: 8},
		"take 0 0": {Op: 2}, "take 6 7=v.8 9": as(2, 3), "take -5 -6": {Op: 2, Clause: -5, To: -6}, "take 8 3=v.1.0 3=v 0=v.-2 -1=v 12": {Op: 2, Clause: 8, Binds: []impl.PathBind{bind(3, 1, 0), bind(3), bind(0, -2), bind(-1)}, To: 12}, "take " + most + " " + least + "=v." + least + " " + least: {Op: 2, Clause: math.MaxInt, Binds: []impl.PathBind{bind(math.MinInt, math.MinInt)}, To: math.MinInt},
	} {
		if text := impl.FormatSteps([]impl.Step{step}); text != want+"\n" {
			t.Errorf("FormatSteps(%v) = %q, not %q", step, text, want)
		}
	}
	for _, op := range []int{0, 3, 4, -1, -2, math.MinInt, math.MaxInt} {
		for _, step := range []impl.Step{{Op: op}, as(op, 3), as(op, -1)} {
			if text := impl.FormatSteps([]impl.Step{step, step}); text != "fail\nfail\n" {
				t.Errorf("FormatSteps(%v) = %q", step, text)
			}
		}
	}
	if impl.FormatSteps(nil) != "" || impl.FormatSteps([]impl.Step{}) != "" {
		t.Error("FormatSteps of no steps is not empty")
	}
	list := []impl.Step{as(2, 0), as(3, 0), as(1, 1), as(1, -1)}
	if text := impl.FormatSteps(list); text != "take 6 7=v.8 9\nfail\ntest v.1.2 #1 9\ntest v.1.2 4-5 9\n" {
		t.Errorf("FormatSteps = %q", text)
	}
	if text := impl.FormatSteps(list[:1]); text != "take 6 7=v.8 9\n" {
		t.Errorf("FormatSteps reads behind the end: %q", text)
	}
}

func TestFormatManySteps(t *testing.T) {
	const count = 300000
	steps := slices.Repeat([]impl.Step{{Op: 1, Path: []int{1}, To: 3}}, count)
	if text := impl.FormatSteps(steps); text != strings.Repeat("test v.1 #0 3\n", count) {
		t.Errorf("FormatSteps of many steps has %d bytes", len(text))
	}
	long := impl.Step{Op: 1, Path: make([]int, count)}
	if text := impl.FormatSteps([]impl.Step{long}); text != "test v"+strings.Repeat(".0", count)+" #0 0\n" {
		t.Errorf("FormatSteps of a long path has %d bytes", len(text))
	}
	binds := impl.Step{Op: 2, Binds: make([]impl.PathBind, count)}
	if text := impl.FormatSteps([]impl.Step{binds}); text != "take 0 "+strings.Repeat("0=v ", count)+"0\n" {
		t.Errorf("FormatSteps of many variables has %d bytes", len(text))
	}
}

// randomMixed are clauses of which many cover what others do, or many have guards, and which are not always valid.
func randomMixed(r *rand.Rand, w []impl.Data, ty impl.Type, guards bool) []impl.Clause {
	list := randomCover(r, w, ty)
	if guards {
		list = randomGuarded(r, w, ty)
	}
	if r.IntN(20) == 0 {
		list = changedClauses(r, list)
	}
	return list
}

func TestRandomCode(t *testing.T) {
	r := rand.New(rand.NewPCG(33, 33))
	invalid, unknown, chosen, failed, left, repeated := 0, 0, 0, 0, 0, 0
	for i := range 2400 {
		w, ty := randomUsed(r)
		list := randomMixed(r, w, ty, i%2 == 0)
		if !impl.ClausesValid(w, ty, list) {
			invalid++
			checkNoCode(t, "not valid", w, ty, list)
			continue
		}
		if _, ok := checkCode(t, w, ty, list); !ok {
			unknown++
			checkNoCode(t, "too many alternatives", w, ty, list)
			continue
		}
		values := matchingValues(r, w, ty, list, nil)
		more, fails := checkSteps(t, w, ty, list, values)
		fewer, again := checkLess(t, w, ty, list, values)
		chosen, failed, left, repeated = chosen+more, failed+fails, left+fewer, repeated+again
	}
	if invalid < 60 || unknown < 10 || chosen < 30000 || failed < 1500 || left < 40 || repeated < 30000 {
		t.Errorf("only %d lists are not valid, %d have too many alternatives, %d values choose a clause, %d guards fail, %d parts are left out by trees, %d tests are repeated", invalid, unknown, chosen, failed, left, repeated)
	}
}

func TestCodeLeavesArguments(t *testing.T) {
	w := mustWorld(t, optWorld)
	const text = "f@Pair((a@Som(b@(1|2))|a@Som(b)),(Non|Som(_))) b<5/Pair(Som((1|2)),_)/Pair(Som(1),_)/Pair(_,Som(d)) d=3"
	spare := append(mustClauses(t, w, impl.Type{}, text), guarded(varPat(5), equal(5, 5)))
	list := spare[:4]
	v := mustValue(t, w, impl.Type{}, "Pair(Som(1),Som(3))")
	code, ok := impl.CompileSteps(w, impl.Type{}, list)
	same, _ := impl.CompileSteps(w, impl.Type{}, list)
	lines := impl.FormatSteps(code)
	i, binds, tests := impl.RunSteps(w, impl.Type{}, list, v)
	paths := impl.TestedPaths(w, impl.Type{}, list, v)
	known := map[any]bool{}
	if !ok || stepMemory(code, known) || stepMemory(same, known) || pathsMemory(paths, known) {
		t.Error("code shares memory")
	}
	if i != 0 || len(binds) != 3 || tests != 8 || pathTexts(paths) != "v v.0 v.0.0 v.1" {
		t.Fatalf("RunSteps = %d, %v, %d; TestedPaths = %v", i, binds, tests, paths)
	}
	// What is written into results is not seen in arguments, and not in later results.
	for _, b := range binds {
		for i := range b.Value.Kids {
			b.Value.Kids[i].Ctor = 99
		}
	}
	for i := range code {
		code[i].Path = append(code[i].Path[:0], 99)
		for j := range code[i].Binds {
			code[i].Binds[j].Path = append(code[i].Binds[j].Path[:0], 99)
		}
	}
	for i := range paths {
		paths[i] = append(paths[i][:0], 99)
	}
	again, _ := impl.CompileSteps(w, impl.Type{}, list)
	if !equalSteps(again, same) || impl.FormatSteps(same) != lines || pathTexts(impl.TestedPaths(w, impl.Type{}, list, v)) != "v v.0 v.0.0 v.1" {
		t.Error("later results are changed")
	}
	if impl.FormatClauses(w, impl.Type{}, list) != text || spare[4].Guard != equal(5, 5) || impl.FormatWorld(w) != optWorld || impl.FormatValue(w, impl.Type{}, v) != "Pair(Som(1),Som(3))" {
		t.Errorf("arguments are changed: %v, %v", spare, v)
	}
}
