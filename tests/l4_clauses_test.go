package tests

import (
	"math"
	"math/rand/v2"
	"slices"
	"strconv"
	"strings"
	"testing"

	"loop.example/matchcompiler/impl"
)

func less(v, n int) impl.Guard { return impl.Guard{Op: impl.GuardLess, Var: v, N: n} }

func equal(v, n int) impl.Guard { return impl.Guard{Op: impl.GuardEqual, Var: v, N: n} }

func clauseOf(p impl.Pattern) impl.Clause { return impl.Clause{Pat: p} }

func guarded(p impl.Pattern, g impl.Guard) impl.Clause { return impl.Clause{Pat: p, Guard: g} }

func bindOf(v int, value impl.Value) impl.Bind { return impl.Bind{Var: v, Value: value} }

func mustClauses(t *testing.T, w []impl.Data, ty impl.Type, text string) []impl.Clause {
	t.Helper()
	list, ok := impl.ParseClauses(w, ty, text)
	if !ok {
		t.Fatalf("ParseClauses(%v, %q) fails", ty, text)
	}
	return list
}

func equalClauses(a, b []impl.Clause) bool {
	return slices.EqualFunc(a, b, func(x, y impl.Clause) bool { return x.Guard == y.Guard && equalPatterns(x.Pat, y.Pat) })
}

func patternsOf(list []impl.Clause) []impl.Pattern {
	var patterns []impl.Pattern
	for _, c := range list {
		patterns = append(patterns, c.Pat)
	}
	return patterns
}

// isClause reports, straight from the definition, whether c is a clause, where its pattern may have any size.
func isClause(w []impl.Data, t impl.Type, c impl.Clause) bool {
	vars, ok := variables(w, t, c.Pat)
	if !ok || c.Guard.Op == impl.GuardNone {
		return ok && c.Guard.Var == 0 && c.Guard.N == 0
	}
	of, has := vars[c.Guard.Var]
	return has && of == intType && c.Guard.N >= 0 && c.Guard.N <= 9 && (c.Guard.Op == 1 || c.Guard.Op == 2)
}

func isClauses(w []impl.Data, t impl.Type, list []impl.Clause) bool {
	isBad := func(c impl.Clause) bool { return !isClause(w, t, c) }
	return len(list) <= 8 && !slices.ContainsFunc(list, isBad)
}

// firstClause is the place of the clause that is chosen for a value, and what its variables stand for.
func firstClause(list []impl.Clause, v impl.Value) (int, map[int]impl.Value) {
	for i, c := range list {
		first, binds := firstMatch(chosen(c.Pat, nil), v)
		n := binds[c.Guard.Var].N
		if first >= 0 && (c.Guard.Op == 0 || c.Guard.Op == 1 && n < c.Guard.N || c.Guard.Op == 2 && n == c.Guard.N) {
			return i, binds
		}
	}
	return -1, nil
}

// randomGuard is a guard with one of the numbers among the variables, if there are any.
func randomGuard(r *rand.Rand, w []impl.Data, t impl.Type, p impl.Pattern) impl.Guard {
	vars, _ := variables(w, t, p)
	for v := range 6 {
		if of, ok := vars[v]; ok && of == intType && r.IntN(4) > 0 {
			return impl.Guard{Op: 1 + r.IntN(2), Var: v, N: r.IntN(10)}
		}
	}
	return impl.Guard{}
}

func randomClauses(r *rand.Rand, w []impl.Data, t impl.Type, depth int) []impl.Clause {
	var list []impl.Clause
	for range r.IntN(9) {
		p := randomPattern(r, w, t, 1+r.IntN(depth), []int{0, 1, 2, 3, 4, 5}[r.IntN(6):])
		list = append(list, guarded(p, randomGuard(r, w, t, p)))
	}
	return list
}

// changedClauses is a list with a small change.
func changedClauses(r *rand.Rand, list []impl.Clause) []impl.Clause {
	list = slices.Clone(list)
	if len(list) == 0 {
		return append(list, clauseOf(anyPat()))
	}
	c := &list[r.IntN(len(list))]
	step := 1 - 2*r.IntN(2)
	switch r.IntN(6) {
	case 0:
		c.Guard.Op += step
	case 1:
		c.Guard.Var += step
	case 2:
		c.Guard.N += step
	case 3:
		c.Guard.N = 9 * r.IntN(2)
	case 4:
		c.Pat = changedPattern(r, c.Pat)
	case 5:
		return append(list, *c)
	}
	return list
}

// checkNoClause checks the results of all functions for a clause that is not valid, alone and behind another one.
func checkNoClause(t *testing.T, name string, w []impl.Data, ty impl.Type, c impl.Clause) {
	t.Helper()
	if impl.ClauseValid(w, ty, c) {
		t.Errorf("%s: ClauseValid(%v, %v)", name, ty, c)
	}
	checkNoList(t, name, w, ty, []impl.Clause{c})
	checkNoList(t, name, w, ty, []impl.Clause{clauseOf(anyPat()), c})
	checkNoList(t, name, w, ty, []impl.Clause{c, clauseOf(anyPat())})
}

// checkNoList checks the results of all functions for clauses that are not valid.
func checkNoList(t *testing.T, name string, w []impl.Data, ty impl.Type, list []impl.Clause) {
	t.Helper()
	if impl.ClausesValid(w, ty, list) || impl.FormatClauses(w, ty, list) != "" {
		t.Errorf("%s: %d clauses for %v are valid", name, len(list), ty)
	}
	for _, v := range []impl.Value{number(0), number(3), made(0), made(1, number(0), made(0))} {
		if i, b, ok := impl.RunClauses(w, ty, list, v); i != -1 || len(b) != 0 || ok {
			t.Errorf("%s: RunClauses(%v, %v) = %d, %v, %v", name, ty, v, i, b, ok)
		}
	}
}

func TestClausesOfInvalidTypes(t *testing.T) {
	eachInvalidType(t, func(name string, w []impl.Data, ty impl.Type) {
		for _, c := range []impl.Clause{clauseOf(anyPat()), clauseOf(varPat(0)), guarded(varPat(0), less(0, 3)), clauseOf(intPat(0, 9)), clauseOf(ctorPat(0))} {
			checkNoClause(t, name, w, ty, c)
		}
		// Not even the list without clauses is valid.
		checkNoList(t, name, w, ty, nil)
		for _, text := range []string{"", "_", "a", "a a<3", "0", "Nil", "_/_", "/", "Aa"} {
			if list, ok := impl.ParseClauses(w, ty, text); ok || len(list) != 0 {
				t.Errorf("%s: ParseClauses(%v, %q) = %v, %v", name, ty, text, list, ok)
			}
		}
	})
}

func TestParseClauses(t *testing.T) {
	e := func(i int) impl.Type { return impl.Type{Index: i} }
	nil0 := clauseOf(ctorPat(0))
	for _, c := range []struct {
		world string
		t     impl.Type
		text  string
		want  []impl.Clause
	}{
		{"", intType, "", nil}, {listWorld, e(3), "", []impl.Clause{}}, {"N=Never(N)", e(0), "", nil},
		{"", intType, "_", []impl.Clause{clauseOf(anyPat())}}, {"", intType, "a a<0", []impl.Clause{guarded(varPat(0), less(0, 0))}}, {"", intType, "a a<9", []impl.Clause{guarded(varPat(0), less(0, 9))}}, {"", intType, "a a=0", []impl.Clause{guarded(varPat(0), equal(0, 0))}}, {"", intType, "f f=9", []impl.Clause{guarded(varPat(5), equal(5, 9))}},
		{"", intType, "2-5/b@3 b<4/(c|c) c=1/_", []impl.Clause{clauseOf(intPat(2, 5)), guarded(asPat(1, intPat(3, 3)), less(1, 4)), guarded(orPat(varPat(2), varPat(2)), equal(2, 1)), clauseOf(anyPat())}},
		{listWorld, e(0), "Cons(a,_) a<3/Nil/_", []impl.Clause{guarded(ctorPat(1, varPat(0), anyPat()), less(0, 3)), nil0, clauseOf(anyPat())}}, {listWorld, e(0), "Nil/Nil", []impl.Clause{nil0, nil0}},
		{listWorld, e(1), "b@Cons(a,Cons(d@2-5,c)) d=5", []impl.Clause{guarded(asPat(1, ctorPat(1, varPat(0), ctorPat(1, asPat(3, intPat(2, 5)), varPat(2)))), equal(3, 5))}},
		{listWorld, e(0), "(Cons(a,_)|Cons(_,Cons(a,_))) a<1", []impl.Clause{guarded(orPat(ctorPat(1, varPat(0), anyPat()), ctorPat(1, anyPat(), ctorPat(1, varPat(0), anyPat()))), less(0, 1))}},
		// The same letter has another type in another clause.
		{listWorld, e(0), "a/Cons(a,_) a=1/Cons(_,a)", []impl.Clause{clauseOf(varPat(0)), guarded(ctorPat(1, varPat(0), anyPat()), equal(0, 1)), clauseOf(ctorPat(1, anyPat(), varPat(0)))}},
		{exprWorld, e(1), "Num(a) a<7/Add(Num(a),b) a=2", []impl.Clause{guarded(ctorPat(0, varPat(0)), less(0, 7)), guarded(ctorPat(2, ctorPat(0, varPat(0)), varPat(1)), equal(0, 2))}},
		{"N=Never(N)", e(0), "Never(_)/a", []impl.Clause{clauseOf(ctorPat(0, anyPat())), clauseOf(varPat(0))}},
	} {
		w, _ := impl.ParseWorld(c.world)
		list, ok := impl.ParseClauses(w, c.t, c.text)
		if !ok || !equalClauses(list, c.want) || !impl.ClausesSame(list, c.want) {
			t.Errorf("ParseClauses(%v, %q) = %v, %v, not %v", c.t, c.text, list, ok, c.want)
		}
		if got := impl.FormatClauses(w, c.t, c.want); got != c.text || !impl.ClausesValid(w, c.t, c.want) {
			t.Errorf("FormatClauses(%v, %v) = %q, not %q", c.t, c.want, got, c.text)
		}
		for _, one := range c.want {
			if !impl.ClauseValid(w, c.t, one) {
				t.Errorf("ClauseValid(%v, %v) is false", c.t, one)
			}
		}
	}
}

func TestParseClausesRejects(t *testing.T) {
	list, expr := mustWorld(t, listWorld), mustWorld(t, exprWorld)
	for _, c := range []struct {
		w     []impl.Data
		t     impl.Type
		texts []string
	}{
		{list, intType, []string{
			"/", "//", "_/", "/_", "_//_", " ", "_ ", " _", "_ /_", "_/ _", "_ / _", "_;_", "_|_", "_,_", "_\n", "_\n_", "a a", "a <3", "a a<", "a a3", "a a <3", "a a< 3", "a  a<3", " a a<3", "a a<3 ", "a a<3 a<4", "a a<3a<4", "a a<3,a<4", "a a<3/", "/a a<3", "aa<3", "a a<10", "a a<03", "a a<-1", "a a<+1", "a a<a", "a 3<a", "a a>3", "a a<=3", "a a==3", "a a!3", "a a:3", "a a\x003", "a a<\x00",
			"a a<\xff", "a \xe1<3", "a a<3\x00", "a b<3", "a b=3", "a _<3", "a A<3", "a g<3", "_ a<3", "3 a=3", "2-5 a<3", "g g<3", "a|a<3", "a@b c<3", "(a|a) b<3", "a@3 a<3/b a<3", "a/b a=3", "b a=3/a", "a a<3_", "a\ta<3", "a a<٣", "a a<3/Nil", "Nil", "a a<3/a a>3", "\x00", "\xff", strings.Repeat("/", 7), strings.Repeat("/", 8), strings.Repeat("/", 1000000), strings.Repeat("_/", 1000000), strings.Repeat(" ", 1000000), "_" + strings.Repeat("/_", 8), "_" + strings.Repeat("/_", 9), "_" + strings.Repeat("/_", 1000000),
			"_" + strings.Repeat("/_", 7) + "/",
		}},
		{list, impl.Type{}, []string{
			"/", "Nil/", "/Nil", "Nil//Nil", "Nil /Nil", "Nil a<3", "Nil ", "a a=3", "a a<3", "a@Nil a=3", "a@Cons(b,_) a<3", "Cons(_,a) a<3", "Cons(_,a) a=0", "Cons(a,_) a>3", "Cons(a,_)  a<3", "Cons(a,_) b<3", "Cons(a,_)a<3", "Cons(a,_) a<3 /Nil", "Cons(a a<3,_)", "Cons(a,b) b=3", "Cons(_,Cons(a,b)) b=3", "(Cons(_,a)|a) a<3", "(Nil a<3|_)", "Cons(a,a) a<3", "5", "_/5",
			"_/(Nil|a)", "Cons(5-4,_)/_", "_/_/_/_/_/_/_/_/_", "Cons(a,_) a<3/Cons(a,_) a<10", "_/" + nested(11), strings.Repeat("(", 100000) + "/_", "_/" + strings.Repeat("Cons(_,", 100000),
		}},
		{expr, impl.Type{Index: 1}, []string{"Bol(_)", "Num(a) a<3/Bol(_)", "Bol(a) a<3", "Add(a,_) a<3", "If(Bol(a),_,_) a=1"}},
		{expr, impl.Type{Index: 2}, []string{"Num(a) a<3", "Bol(a) a=0", "_/Num(_)"}},
	} {
		for _, text := range c.texts {
			if got, ok := impl.ParseClauses(c.w, c.t, text); ok || len(got) != 0 {
				t.Errorf("ParseClauses(%v, %q) = %v, %v", c.t, text[:min(50, len(text))], got, ok)
			}
		}
	}
}

func TestClauseValidRejects(t *testing.T) {
	list := mustWorld(t, listWorld)
	head := ctorPat(1, varPat(0), varPat(1))
	for _, n := range []int{0, 9} {
		if !impl.ClauseValid(list, impl.Type{}, guarded(head, less(0, n))) || !impl.ClauseValid(list, impl.Type{}, guarded(head, equal(0, n))) {
			t.Errorf("guards with the number %d are not valid", n)
		}
	}
	var bad []impl.Clause
	for _, g := range []impl.Guard{{Var: 1}, {N: 1}, {Var: -1}, {N: -1}, {Op: -1}, {Op: 3}, {Op: 3, N: 1}, {Op: math.MinInt}, {Op: math.MaxInt}, {Var: math.MaxInt}, {N: math.MinInt}} {
		bad = append(bad, guarded(head, g), guarded(anyPat(), g))
	}
	for _, n := range []int{-1, 10, math.MinInt, math.MaxInt} {
		bad = append(bad, guarded(head, less(0, n)), guarded(head, equal(0, n)), guarded(head, less(n, 3)), guarded(head, equal(n, 3)))
	}
	// The variable stands for a list, or is not one of the pattern, or the pattern is not valid.
	bad = append(bad, guarded(head, less(1, 3)), guarded(head, equal(1, 3)), guarded(head, less(2, 3)), guarded(varPat(0), less(0, 3)), guarded(asPat(0, head), less(0, 3)), guarded(anyPat(), less(0, 3)), guarded(ctorPat(0), equal(0, 0)), guarded(ctorPat(1, intPat(0, 9), anyPat()), less(0, 3)))
	for _, p := range []impl.Pattern{{}, ctorPat(2), ctorPat(1), intPat(0, 0), ctorPat(1, varPat(0), varPat(0)), orPat(varPat(0), anyPat()), varPat(6), {Op: impl.PatAny, N: 1}} {
		bad = append(bad, clauseOf(p), guarded(p, less(0, 3)))
	}
	for _, c := range bad {
		checkNoClause(t, "lists", list, impl.Type{}, c)
	}
	for _, c := range []impl.Clause{guarded(anyPat(), less(0, 3)), guarded(varPat(1), less(0, 3)), guarded(varPat(0), equal(1, 3)), guarded(intPat(3, 3), equal(0, 3)), guarded(varPat(6), less(6, 3)), guarded(varPat(-1), less(-1, 3)), clauseOf(ctorPat(0)), clauseOf(intPat(5, 4))} {
		checkNoClause(t, "numbers", list, intType, c)
	}
	expr := mustWorld(t, exprWorld)
	for _, c := range []impl.Clause{clauseOf(ctorPat(1, anyPat())), guarded(ctorPat(2, varPat(0), varPat(1)), less(0, 3)), guarded(ctorPat(1, varPat(0)), equal(0, 0))} {
		checkNoClause(t, "an index that leaves a constructor out, or no number", expr, impl.Type{Index: 1}, c)
	}
}

func TestClausesAtTheLimit(t *testing.T) {
	w := mustWorld(t, listWorld)
	for count := range 11 {
		list := slices.Repeat([]impl.Clause{clauseOf(ctorPat(0))}, count)
		text := strings.TrimSuffix(strings.Repeat("Nil/", count), "/")
		back, ok := impl.ParseClauses(w, impl.Type{}, text)
		if count > 8 {
			checkNoList(t, "more than eight clauses", w, impl.Type{}, list)
			if ok || len(back) != 0 {
				t.Errorf("ParseClauses reads %d clauses", count)
			}
			continue
		}
		if !impl.ClausesValid(w, impl.Type{}, list) || impl.FormatClauses(w, impl.Type{}, list) != text || !ok || !equalClauses(back, list) {
			t.Errorf("%d clauses are not valid", count)
		}
		for i := range list {
			last := slices.Clone(list)
			last[i] = clauseOf(ctorPat(1, anyPat(), anyPat()))
			if got, _, ok := impl.RunClauses(w, impl.Type{}, last, made(1, number(0), made(0))); got != i || !ok {
				t.Errorf("the clause %d of %d is not chosen, but %d", i, count, got)
			}
		}
	}
	deep := mustPattern(t, w, impl.Type{}, nested(10))
	if !impl.ClausesValid(w, impl.Type{}, []impl.Clause{clauseOf(deep), clauseOf(deep)}) {
		t.Error("clauses with deep patterns are not valid")
	}
	checkNoClause(t, "depth 11", w, impl.Type{}, clauseOf(ctorPat(1, anyPat(), deep)))
}

func TestGuardHolds(t *testing.T) {
	binds := []impl.Bind{bindOf(1, number(4)), bindOf(3, made(1, number(4), made(0))), bindOf(0, number(0)), bindOf(1, number(7)), bindOf(3, number(4)), bindOf(5, number(9)), bindOf(4, made(0)), bindOf(-2, number(6)), bindOf(9, number(6))}
	none := func(v, n int) impl.Guard { return impl.Guard{Var: v, N: n} }
	other := func(op int) impl.Guard { return impl.Guard{Op: op, Var: 1, N: 4} }
	for _, c := range []struct {
		binds []impl.Bind
		holds []impl.Guard
		fails []impl.Guard
	}{
		{nil, []impl.Guard{{}, none(7, -3)}, []impl.Guard{less(0, 9), equal(0, 0), less(1, 5), other(3), other(-1)}},
		{
			binds,
			// Among several elements with the variable, the first one decides, whatever its value is.
			[]impl.Guard{{}, none(2, 0), none(3, 4), none(-1, 99), less(1, 5), less(1, 9), equal(1, 4), less(0, 1), equal(0, 0), equal(5, 9), less(1, 100), less(5, math.MaxInt), less(-2, 7), equal(9, 6)},
			[]impl.Guard{less(1, 4), less(1, 3), less(1, 0), equal(1, 3), equal(1, 5), equal(1, 7), less(0, 0), less(0, -1), equal(0, 1), equal(0, -1), less(5, 9), less(2, 9), equal(2, 0), equal(2, 4), less(3, 9), equal(3, 4), less(4, 9), equal(4, 0), less(-2, 6), equal(-2, 0), equal(8, 6), less(1, math.MinInt), equal(1, math.MaxInt), other(3), other(-1), other(4), other(math.MinInt), other(math.MaxInt)},
		},
		// Constructors and holes are no numbers, even if they have one as N.
		{[]impl.Bind{bindOf(0, impl.Value{Ctor: 0, N: 4}), bindOf(1, impl.Value{Ctor: -2, N: 4}), bindOf(2, impl.Value{Ctor: 1})}, []impl.Guard{{}}, []impl.Guard{equal(0, 4), less(0, 5), equal(1, 4), less(1, 5), equal(2, 0), less(2, 1)}},
	} {
		for _, g := range c.holds {
			if !impl.GuardHolds(g, c.binds) {
				t.Errorf("%v does not hold for %v", g, c.binds)
			}
		}
		for _, g := range c.fails {
			if impl.GuardHolds(g, c.binds) {
				t.Errorf("%v holds for %v", g, c.binds)
			}
		}
	}
	for n := range 10 {
		for m := range 10 {
			binds := []impl.Bind{bindOf(2, number(m))}
			if impl.GuardHolds(less(2, n), binds) != (m < n) || impl.GuardHolds(equal(2, n), binds) != (m == n) {
				t.Errorf("GuardHolds is wrong for %d and %d", m, n)
			}
		}
	}
}

func TestRunClauses(t *testing.T) {
	e := func(i int) impl.Type { return impl.Type{Index: i} }
	for _, c := range []struct {
		world   string
		t       impl.Type
		clauses string
		want    string // value:clause, and what its variables stand for
	}{
		// No clauses at all.
		{"", intType, "", "0:none 9:none"}, {listWorld, e(0), "", "Nil:none Cons(0,Nil):none"}, {exprWorld, e(2), "", "Bol(Tru):none"},
		{"", intType, "3/_", "3:0 2:1 4:1"}, {"", intType, "0-9/3", "3:0 0:0 9:0"}, {"", intType, "2-5/4-7", "2:0 4:0 5:0 6:1 7:1 8:none 1:none"}, {"", intType, "a/b", "7:0,a=7"}, {"", intType, "b@a@3/c", "3:0,a=3,b=3 4:1,c=4"},
		{"", intType, "a a<5/b b=7/c", "0:0,a=0 4:0,a=4 5:2,c=5 6:2,c=6 7:1,b=7 8:2,c=8"}, {"", intType, "a a<0/b b=0/c c<9/d d=9", "0:1,b=0 1:2,c=1 8:2,c=8 9:3,d=9"}, {"", intType, "a a=3/a a=3/a a<4/a", "3:0,a=3 2:2,a=2 4:3,a=4"}, {"", intType, "a a<3", "2:0,a=2 3:none 9:none"},
		{"", intType, "0/1/2/3/4/5/6/7", "0:0 1:1 6:6 7:7 8:none 9:none"}, {"", intType, "a a=0/a a=1/a a=2/a a=3/a a=4/a a=5/a a=6/a a<9", "0:0,a=0 6:6,a=6 7:7,a=7 8:7,a=8 9:none"}, {"", intType, "(a@1|a@3) a=3/_", "1:1 2:1 3:0,a=3"},
		{listWorld, e(0), "Cons(a,_) a<3/Nil/_", "Cons(2,Nil):0,a=2 Nil:1 Cons(3,Nil):2 Cons(5,Nil):2"}, {listWorld, e(0), "Cons(a,_) a<3/Nil", "Cons(0,Nil):0,a=0 Nil:1 Cons(3,Nil):none"}, {listWorld, e(0), "_/Nil", "Nil:0 Cons(1,Nil):0"}, {listWorld, e(0), "Nil/Nil/Cons(_,_)", "Nil:0 Cons(1,Nil):2"},
		// A guard that fails leaves nothing behind for later clauses, of which the same or another one can fit.
		{listWorld, e(0), "Cons(a,b) a<3/Cons(_,a)/_", "Cons(2,Nil):0,a=2,b=Nil Cons(5,Nil):1,a=Nil Nil:2"}, {listWorld, e(0), "Cons(a,_) a=1/Cons(a,_) a=2/Cons(a,_)", "Cons(1,Nil):0,a=1 Cons(2,Nil):1,a=2 Cons(3,Nil):2,a=3 Nil:none"}, {listWorld, e(0), "c@Cons(b,a) b=4/Cons(_,Cons(f,_)) f<2/d", "Cons(4,Nil):0,a=Nil,b=4,c=Cons(4,Nil) Cons(3,Cons(1,Nil)):1,f=1 Cons(3,Cons(2,Nil)):2,d=Cons(3,Cons(2,Nil)) Nil:2,d=Nil"},
		// The guard is asked for what the first part that matches makes its variable stand for, and not for another part.
		{listWorld, e(0), "(Cons(a,Cons(_,_))|Cons(_,Cons(a,_))) a=2/_", "Cons(2,Cons(1,Nil)):0,a=2 Cons(1,Cons(2,Nil)):1 Cons(2,Nil):1"}, {listWorld, e(0), "(Cons(1,Cons(a,_))|Cons(a,_)) a<2/Cons(b,_)", "Cons(1,Cons(0,Nil)):0,a=0 Cons(1,Cons(5,Nil)):1,b=1 Cons(0,Cons(5,Nil)):0,a=0 Cons(1,Nil):0,a=1 Cons(2,Nil):1,b=2"},
		{optWorld, e(0), "Pair(Som(a),Som(b)) b<3/Pair(Som(a),_) a=4/Pair(_,a)/_", "Pair(Som(4),Som(2)):0,a=4,b=2 Pair(Som(4),Som(3)):1,a=4 Pair(Som(5),Som(3)):2,a=Som(3) Pair(Non,Non):2,a=Non"}, {optWorld, impl.Type{Data: 1}, "Som(a) a<1/Som(a) a=1/a", "Som(0):0,a=0 Som(1):1,a=1 Som(2):2,a=Som(2) Non:2,a=Non"},
		{exprWorld, e(1), "Num(a) a<5/If(Bol(Tru),b,_)/Add(Num(a),b) a=0", "Num(4):0,a=4 Num(5):none If(Bol(Tru),Num(1),Num(2)):1,b=Num(1) If(Bol(Fls),Num(1),Num(2)):none Add(Num(0),Num(7)):2,a=0,b=Num(7) Add(Num(1),Num(7)):none"}, {exprWorld, e(0), "If(_,Num(_),Bol(_))/Bol(_)/a", "If(Bol(Tru),Num(1),Bol(Tru)):0 Bol(Fls):1 Num(0):2,a=Num(0)"},
	} {
		w, _ := impl.ParseWorld(c.world)
		list := mustClauses(t, w, c.t, c.clauses)
		for _, one := range strings.Fields(c.want) {
			text, want, _ := strings.Cut(one, ":")
			i, binds, ok := impl.RunClauses(w, c.t, list, mustValue(t, w, c.t, text))
			got := "none"
			if i >= 0 && i < len(list) {
				got = strings.Join(append([]string{strconv.Itoa(i)}, strings.Fields(bindText(w, c.t, list[i].Pat, binds))...), ",")
			}
			if !ok || got != want || want == "none" && (i != -1 || len(binds) != 0) {
				t.Errorf("RunClauses(%q, %s) = %d, %v, %v, not %s", c.clauses, text, i, binds, ok, want)
			}
		}
	}
}

func TestRunClausesRejects(t *testing.T) {
	list, expr := mustWorld(t, listWorld), mustWorld(t, exprWorld)
	deep := made(1, number(0), mustValue(t, list, impl.Type{}, nested(10)))
	for _, c := range []struct {
		w []impl.Data
		t impl.Type
		v impl.Value
	}{
		{nil, intType, number(10)}, {list, intType, number(-1)}, {list, intType, made(0)}, {list, impl.Type{}, number(0)}, {list, impl.Type{}, made(2)}, {list, impl.Type{}, made(1)}, {list, impl.Type{}, impl.Value{N: 1}}, {list, impl.Type{}, made(1, number(10), made(0))}, {list, impl.Type{}, made(1, made(0), made(0))}, {list, impl.Type{}, made(0, number(1))},
		{list, impl.Type{}, deep}, {expr, impl.Type{Index: 1}, made(1, made(0))}, {expr, impl.Type{Index: 2}, made(0, number(0))},
	} {
		for _, clauses := range [][]impl.Clause{nil, {clauseOf(anyPat())}, {clauseOf(varPat(0)), clauseOf(anyPat())}} {
			if i, b, ok := impl.RunClauses(c.w, c.t, clauses, c.v); i != -1 || len(b) != 0 || ok {
				t.Errorf("RunClauses(%v, %v, %v) = %d, %v, %v", c.t, clauses, c.v, i, b, ok)
			}
		}
	}
	// A clause that is not valid counts, even behind the one that would be chosen.
	for _, bad := range []impl.Clause{{}, guarded(anyPat(), impl.Guard{N: 1}), guarded(varPat(0), less(0, 3)), guarded(ctorPat(1, varPat(0), anyPat()), less(0, 10)), guarded(ctorPat(1, varPat(0), anyPat()), impl.Guard{Op: 3})} {
		checkNoClause(t, "behind another one", list, impl.Type{}, bad)
	}
}

func TestClausesSame(t *testing.T) {
	head := ctorPat(1, varPat(0), anyPat())
	different := [][]impl.Clause{
		nil, {{}}, {{}, {}}, {clauseOf(anyPat())}, {clauseOf(varPat(0))}, {clauseOf(anyPat()), clauseOf(varPat(0))}, {clauseOf(varPat(0)), clauseOf(anyPat())}, {clauseOf(anyPat()), clauseOf(anyPat())}, {clauseOf(anyPat()), clauseOf(anyPat()), clauseOf(anyPat())},
		{clauseOf(head)}, {guarded(head, less(0, 3))}, {guarded(head, equal(0, 3))}, {guarded(head, less(0, 4))}, {guarded(head, less(1, 3))}, {guarded(head, impl.Guard{Var: 1})}, {guarded(head, impl.Guard{N: 1})}, {guarded(head, impl.Guard{Op: 3})}, {guarded(head, impl.Guard{Op: math.MinInt, Var: math.MaxInt, N: math.MinInt})}, {guarded(ctorPat(1, varPat(1), anyPat()), less(0, 3))}, {guarded(ctorPat(1, varPat(0), varPat(1)), less(0, 3))},
		{guarded(head, less(0, 3)), clauseOf(anyPat())}, {clauseOf(anyPat()), guarded(head, less(0, 3))}, slices.Repeat([]impl.Clause{clauseOf(anyPat())}, 8), slices.Repeat([]impl.Clause{clauseOf(anyPat())}, 9), append(slices.Repeat([]impl.Clause{clauseOf(anyPat())}, 8), clauseOf(varPat(0))), {guarded(impl.Pattern{Op: 99}, less(0, 3))},
	}
	for i, a := range different {
		for j, b := range different {
			if impl.ClausesSame(a, slices.Clone(b)) != (i == j) || impl.ClausesSame(a, b) != (i == j) {
				t.Errorf("ClausesSame(%v, %v) = %v", a, b, i != j)
			}
		}
	}
	if !impl.ClausesSame(nil, []impl.Clause{}) || !impl.ClausesSame([]impl.Clause{{}}, []impl.Clause{clauseOf(impl.Pattern{Kids: []impl.Pattern{}})}) {
		t.Error("a nil slice and an empty slice are different")
	}
}

func TestHugeClauses(t *testing.T) {
	huge := func(end impl.Pattern) []impl.Clause {
		for range 100 {
			end = orPat(end, end)
		}
		return []impl.Clause{clauseOf(end), guarded(end, equal(0, 1))}
	}
	a, b, c := huge(varPat(0)), huge(varPat(0)), huge(varPat(1))
	if !impl.ClausesSame(a, b) || impl.ClausesSame(a, c) || impl.ClausesSame(a, a[:1]) {
		t.Error("huge clauses are compared in a wrong way")
	}
	w := mustWorld(t, listWorld)
	checkNoList(t, "huge patterns", w, intType, a)
	checkNoList(t, "many clauses", w, intType, slices.Repeat([]impl.Clause{guarded(varPat(0), less(0, 3))}, 1000000))
	chain := varPat(0)
	for range 300000 {
		chain = ctorPat(1, anyPat(), chain)
	}
	deep := []impl.Clause{clauseOf(chain)}
	if !impl.ClausesSame(deep, deep) {
		t.Error("a deep clause is not equal to itself")
	}
	checkNoList(t, "a deep pattern", w, impl.Type{}, deep)
}

func TestRandomClausesAreReadBack(t *testing.T) {
	r := rand.New(rand.NewPCG(21, 21))
	valid, others := 0, 0
	for range 10000 {
		w := randomWorld(r)
		ty := randomType(r, w)
		list := randomClauses(r, w, ty, 5)
		if r.IntN(2) == 0 {
			list = changedClauses(r, list)
		}
		isLarge := func(c impl.Clause) bool { return patternSize(c.Pat) > 60 || patternHeight(c.Pat) > 10 }
		for _, c := range list {
			if impl.ClauseValid(w, ty, c) != (isClause(w, ty, c) && !isLarge(c)) {
				t.Fatalf("%q, %v: %v is valid, or is not", impl.FormatWorld(w), ty, c)
			}
		}
		want := isClauses(w, ty, list) && !slices.ContainsFunc(list, isLarge)
		text := impl.FormatClauses(w, ty, list)
		if impl.ClausesValid(w, ty, list) != want || (text != "") != (want && len(list) > 0) {
			t.Fatalf("%q, %v: %v are valid, or are not; their text is %q", impl.FormatWorld(w), ty, list, text)
		}
		if !want {
			others++
			continue
		}
		back, ok := impl.ParseClauses(w, ty, text)
		if !ok || !equalClauses(back, list) || !impl.ClausesSame(back, list) || sharePatterns(patternsOf(back)) {
			t.Fatalf("%v have the text %q, which is read as %v, %v", list, text, back, ok)
		}
		valid++
	}
	if valid < 2000 || others < 2000 {
		t.Errorf("only %d lists are valid, and %d are not", valid, others)
	}
}

func TestRandomClausesAreRun(t *testing.T) {
	r := rand.New(rand.NewPCG(22, 22))
	first, later, none, passed := 0, 0, 0, 0
	for range 10000 {
		w := randomWorld(r)
		ty := randomType(r, w)
		list := randomClauses(r, w, ty, 4)
		if !impl.ClausesValid(w, ty, list) || slices.ContainsFunc(list, func(c impl.Clause) bool { return len(chosen(c.Pat, nil)) >= 500 }) {
			continue
		}
		v, has := randomValue(r, w, ty, 3)
		if len(list) > 0 && r.IntN(3) > 0 {
			v, has = instance(r, w, ty, list[r.IntN(len(list))].Pat)
		}
		if !has || !impl.ValueValid(w, ty, v) {
			continue
		}
		i, want := firstClause(list, v)
		got, binds, ok := impl.RunClauses(w, ty, list, v)
		ascending := slices.IsSortedFunc(binds, func(a, b impl.Bind) int { return a.Var - b.Var })
		if !ok || got != i || len(binds) != len(want) || !ascending || !equalBinds(mapOf(binds), want) {
			t.Fatalf("%q, %v: RunClauses(%q, %v) = %d, %v, %v, not %d, %v", impl.FormatWorld(w), ty, impl.FormatClauses(w, ty, list), v, got, binds, ok, i, want)
		}
		values := []impl.Value{v}
		for _, b := range binds {
			values = append(values, b.Value)
		}
		if shareMemory(values) {
			t.Fatalf("RunClauses(%q, %v) shares memory", impl.FormatClauses(w, ty, list), v)
		}
		switch {
		case i == 0:
			first++
		case i > 0:
			later++
		default:
			none++
		}
		if fit, _ := firstMatch(patternsOf(list), v); fit >= 0 && (i < 0 || fit < i) {
			passed++
		}
	}
	if first < 500 || later < 500 || none < 500 || passed < 200 {
		t.Errorf("only %d values choose the first clause, %d a later one, %d none; for %d, a guard fails", first, later, none, passed)
	}
}

// isClausesText reports whether a text is that of clauses with patterns of any size.
func isClausesText(w []impl.Data, t impl.Type, text string) bool {
	parts := strings.Split(text, "/")
	isBad := func(part string) bool {
		words := strings.Split(part, " ")
		vars, ok := textVars(w, t, words[0])
		if !ok || len(words) == 1 {
			return !ok
		}
		g := words[1]
		if len(words) > 2 || len(g) != 3 || !strings.Contains("<=", g[1:2]) || !strings.Contains("0123456789", g[2:]) {
			return true
		}
		of, has := vars[int(g[0])-'a']
		return !has || of != intType
	}
	return text == "" || len(parts) <= 8 && !slices.ContainsFunc(parts, isBad)
}

func TestChangedClauseTexts(t *testing.T) {
	r := rand.New(rand.NewPCG(23, 23))
	valid, others := 0, 0
	for range 40000 {
		w := randomWorld(r)
		ty := randomType(r, w)
		text := []byte(impl.FormatClauses(w, ty, randomClauses(r, w, ty, 3)))
		if len(text) == 0 {
			continue
		}
		if r.IntN(4) > 0 {
			text = changedText(r, text, "ABCabcdefg0123459(|),-@_<<==>//  \x00\xff")
		} else {
			ty = randomType(r, w)
		}
		back, ok := impl.ParseClauses(w, ty, string(text))
		if ok != isClausesText(w, ty, string(text)) || ok && impl.FormatClauses(w, ty, back) != string(text) || !ok && len(back) != 0 {
			t.Fatalf("ParseClauses(%q, %v, %q) = %v, %v", impl.FormatWorld(w), ty, text, back, ok)
		}
		if ok {
			valid++
		} else {
			others++
		}
	}
	if valid < 3000 || others < 5000 {
		t.Errorf("only %d texts are valid, and %d are not", valid, others)
	}
}

func TestClausesLeaveArguments(t *testing.T) {
	w := mustWorld(t, optWorld)
	text := "f@Pair(a@Som(b),(Non|Som(_))) b<5/Pair(_,_)"
	spare := append(mustClauses(t, w, impl.Type{}, text), guarded(varPat(5), equal(5, 5)))
	list := spare[:2]
	v := mustValue(t, w, impl.Type{}, "Pair(Som(1),Som(2))")
	values := append(slices.Clone(v.Kids), number(7))
	v.Kids = values[:2]
	impl.ClauseValid(w, impl.Type{}, list[0])
	impl.ClausesValid(w, impl.Type{}, list)
	impl.FormatClauses(w, impl.Type{}, list)
	impl.ClausesSame(list, spare)
	given := []impl.Bind{bindOf(1, number(4)), bindOf(0, number(3))}
	impl.GuardHolds(less(0, 4), given)
	_, binds, _ := impl.RunClauses(w, impl.Type{}, list, v)
	// What is written into results is not seen in arguments.
	for _, b := range binds {
		for i := range b.Value.Kids {
			b.Value.Kids[i].N = 99
		}
		_ = append(b.Value.Kids, number(99))
	}
	if impl.FormatClauses(w, impl.Type{}, list) != text || spare[2].Guard != equal(5, 5) || impl.FormatWorld(w) != optWorld {
		t.Errorf("arguments are changed: %v", spare)
	}
	if impl.FormatValue(w, impl.Type{}, v) != "Pair(Som(1),Som(2))" || values[2].N != 7 || given[0].Var != 1 || given[1].Var != 0 || len(binds) != 3 {
		t.Errorf("arguments are changed: %v, %v; %v", values, given, binds)
	}
}
