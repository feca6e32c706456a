package tests

import (
	"math"
	"math/rand/v2"
	"slices"
	"strings"
	"testing"

	"loop.example/matchcompiler/impl"
)

// uncoveredOf are the parts of a pattern that clauses do not cover, rule by rule.
func (x rules) uncoveredOf(t impl.Type, p impl.Pattern, list []impl.Clause) ([]impl.Pattern, bool) {
	parts := chosen(bareOf(p), nil)
	var away []impl.Pattern
	for _, c := range list {
		if c.Guard.Op != impl.GuardNone {
			continue
		}
		more := chosen(bareOf(c.Pat), nil)
		if len(more) > 40 {
			return nil, false
		}
		away = append(away, more...)
	}
	left, ok := x.separated(t, parts)
	if !ok || len(parts) > 40 {
		return nil, false
	}
	return finishedList(x.leftOf(t, left, away))
}

// isCovered reports whether a value matches the pattern of a clause without a guard.
func isCovered(list []impl.Clause, v impl.Value) bool {
	return slices.ContainsFunc(list, func(c impl.Clause) bool { return c.Guard.Op == 0 && fits(c.Pat, v) })
}

// coverage is what the functions return for clauses, where known says whether all of it is there.
type coverage struct {
	missing   []impl.Pattern
	reached   [][]impl.Pattern
	redundant []int
	known     bool
}

// coverageOf is the coverage of valid clauses, of which all results are compared with the rules.
func coverageOf(t *testing.T, x rules, ty impl.Type, list []impl.Clause) coverage {
	t.Helper()
	text := impl.FormatClauses(x.w, ty, list)
	missing, known := impl.MissingPatterns(x.w, ty, list)
	wanted, has := x.uncoveredOf(ty, anyPat(), list)
	if known != has || !slices.EqualFunc(missing, wanted, equalPatterns) || sharePatterns(slices.Concat(missing, patternsOf(list))) {
		t.Fatalf("%q, %v: MissingPatterns(%s) = %s, %v, not %s, %v", impl.FormatWorld(x.w), ty, text, listText(x.w, ty, missing), known, listText(x.w, ty, wanted), has)
	}
	if all, ok := impl.Exhaustive(x.w, ty, list); ok != known || all != (known && len(missing) == 0) {
		t.Fatalf("%q, %v: Exhaustive(%s) = %v, %v", impl.FormatWorld(x.w), ty, text, all, ok)
	}
	checkMissingValue(t, x.w, ty, list, missing)
	cover := coverage{missing: missing, known: known}
	allReached := true
	for i, c := range list {
		reached, ok := impl.ReachedPatterns(x.w, ty, list, i)
		wanted, has := x.uncoveredOf(ty, c.Pat, list[:i])
		if ok != has || !slices.EqualFunc(reached, wanted, equalPatterns) || sharePatterns(slices.Concat(reached, patternsOf(list))) {
			t.Fatalf("%q, %v: ReachedPatterns(%s, %d) = %s, %v, not %s, %v", impl.FormatWorld(x.w), ty, text, i, listText(x.w, ty, reached), ok, listText(x.w, ty, wanted), has)
		}
		cover.reached = append(cover.reached, reached)
		allReached = allReached && ok
		if len(reached) == 0 {
			cover.redundant = append(cover.redundant, i)
		}
	}
	if !allReached {
		cover.redundant = nil
	}
	cover.known = known && allReached
	checkRedundant(t, x.w, ty, list, cover.redundant, allReached)
	return cover
}

func checkMissingValue(t *testing.T, w []impl.Data, ty impl.Type, list []impl.Clause, missing []impl.Pattern) {
	t.Helper()
	var want impl.Value
	has := false
	if len(missing) > 0 {
		want, has = impl.SamplePattern(w, ty, missing[0])
	}
	v, ok := impl.MissingValue(w, ty, list)
	if ok != has || compared(v, want) != 0 || ok && (!impl.ValueValid(w, ty, v) || isCovered(list, v)) {
		t.Fatalf("%q, %v: MissingValue(%s) = %v, %v, not %v, %v", impl.FormatWorld(w), ty, impl.FormatClauses(w, ty, list), v, ok, want, has)
	}
}

// checkRedundant checks which clauses are redundant, and that the others are what is left of valid clauses.
func checkRedundant(t *testing.T, w []impl.Data, ty impl.Type, list []impl.Clause, redundant []int, known bool) {
	t.Helper()
	if got, ok := impl.RedundantClauses(w, ty, list); ok != known || !slices.Equal(got, redundant) {
		t.Fatalf("%q, %v: RedundantClauses(%s) = %v, %v, not %v, %v", impl.FormatWorld(w), ty, impl.FormatClauses(w, ty, list), got, ok, redundant, known)
	}
	var want []impl.Clause
	for i, c := range list {
		if known && !slices.Contains(redundant, i) {
			want = append(want, c)
		}
	}
	got, ok := impl.DropRedundant(w, ty, list)
	if ok != known || !equalClauses(got, want) || sharePatterns(slices.Concat(patternsOf(got), patternsOf(list))) {
		t.Fatalf("%q, %v: DropRedundant(%s) = %v, %v, not %v, %v", impl.FormatWorld(w), ty, impl.FormatClauses(w, ty, list), got, ok, want, known)
	}
}

// checkNoCover checks that there are no results for clauses.
func checkNoCover(t *testing.T, name string, w []impl.Data, ty impl.Type, list []impl.Clause) {
	t.Helper()
	checkNothingMissing(t, name, w, ty, list)
	for _, i := range []int{-1, 0, 1, len(list) - 1, len(list), math.MaxInt} {
		checkNotReached(t, name, w, ty, list, i)
	}
	checkNotRedundant(t, name, w, ty, list)
}

// checkNothingMissing checks that it is not known what is missing.
func checkNothingMissing(t *testing.T, name string, w []impl.Data, ty impl.Type, list []impl.Clause) {
	t.Helper()
	if left, ok := impl.MissingPatterns(w, ty, list); ok || len(left) != 0 {
		t.Errorf("%s: MissingPatterns(%v, %d clauses) = %v, %v", name, ty, len(list), left, ok)
	}
	if v, ok := impl.MissingValue(w, ty, list); ok || !isZero(v) {
		t.Errorf("%s: MissingValue(%v, %d clauses) = %v, %v", name, ty, len(list), v, ok)
	}
	if all, ok := impl.Exhaustive(w, ty, list); ok || all {
		t.Errorf("%s: Exhaustive(%v, %d clauses) = %v, %v", name, ty, len(list), all, ok)
	}
}

// checkNotReached checks that it is not known what reaches the clause i.
func checkNotReached(t *testing.T, name string, w []impl.Data, ty impl.Type, list []impl.Clause, i int) {
	t.Helper()
	if reached, ok := impl.ReachedPatterns(w, ty, list, i); ok || len(reached) != 0 {
		t.Errorf("%s: ReachedPatterns(%v, %d clauses, %d) = %v, %v", name, ty, len(list), i, reached, ok)
	}
}

// checkNotRedundant checks that it is not known what is redundant.
func checkNotRedundant(t *testing.T, name string, w []impl.Data, ty impl.Type, list []impl.Clause) {
	t.Helper()
	if redundant, ok := impl.RedundantClauses(w, ty, list); ok || len(redundant) != 0 {
		t.Errorf("%s: RedundantClauses(%v, %d clauses) = %v, %v", name, ty, len(list), redundant, ok)
	}
	if kept, ok := impl.DropRedundant(w, ty, list); ok || len(kept) != 0 {
		t.Errorf("%s: DropRedundant(%v, %d clauses) = %v, %v", name, ty, len(list), kept, ok)
	}
}

func checkNoMeet(t *testing.T, name string, w []impl.Data, ty impl.Type, a, b impl.Clause) {
	t.Helper()
	for _, pair := range [][2]impl.Clause{{a, b}, {b, a}} {
		if meet, ok := impl.ClausesMeet(w, ty, pair[0], pair[1]); ok || meet {
			t.Errorf("%s: ClausesMeet(%v, %v) = %v, %v", name, ty, pair, meet, ok)
		}
	}
}

// checkNoCoverWith checks that there are no results for a clause that is not valid, alone and beside others.
func checkNoCoverWith(t *testing.T, name string, w []impl.Data, ty impl.Type, c impl.Clause) {
	t.Helper()
	whole := clauseOf(anyPat())
	for _, list := range [][]impl.Clause{{c}, {whole, c}, {c, whole}, {whole, c, whole}} {
		checkNoCover(t, name, w, ty, list)
	}
	checkNoMeet(t, name, w, ty, c, whole)
	checkNoMeet(t, name, w, ty, c, c)
}

func TestCoverOfInvalidTypes(t *testing.T) {
	eachInvalidType(t, func(name string, w []impl.Data, ty impl.Type) {
		checkNoCover(t, name, w, ty, nil)
		for _, c := range []impl.Clause{clauseOf(anyPat()), clauseOf(varPat(0)), guarded(varPat(0), less(0, 3)), clauseOf(intPat(0, 9)), clauseOf(ctorPat(0))} {
			checkNoCoverWith(t, name, w, ty, c)
		}
	})
}

func TestCoverOfInvalidClauses(t *testing.T) {
	list := mustWorld(t, listWorld)
	head := ctorPat(1, varPat(0), varPat(1))
	for _, c := range []impl.Clause{
		{}, clauseOf(impl.Pattern{Op: 7}), clauseOf(ctorPat(2)), clauseOf(ctorPat(1)), clauseOf(intPat(0, 9)), clauseOf(varPat(6)), clauseOf(ctorPat(1, varPat(0), varPat(0))), clauseOf(orPat(varPat(0), anyPat())), clauseOf(impl.Pattern{Op: impl.PatAny, N: 1}),
		// The pattern is valid, but not the guard.
		guarded(head, less(1, 3)), guarded(head, less(2, 3)), guarded(head, less(0, 10)), guarded(head, equal(0, -1)), guarded(head, impl.Guard{Op: 3}), guarded(head, impl.Guard{Op: -1}), guarded(head, impl.Guard{N: 1}), guarded(anyPat(), less(0, 3)), guarded(varPat(0), equal(0, 3)),
		clauseOf(ctorPat(1, anyPat(), mustPattern(t, list, impl.Type{}, nested(10)))),
	} {
		checkNoCoverWith(t, "lists", list, impl.Type{}, c)
	}
	expr := mustWorld(t, exprWorld)
	checkNoCoverWith(t, "an index that leaves a constructor out", expr, impl.Type{Index: 1}, clauseOf(ctorPat(1, anyPat())))
	checkNoCoverWith(t, "an index that leaves a constructor out", expr, impl.Type{Index: 2}, clauseOf(ctorPat(0, anyPat())))
	checkNoCover(t, "nine clauses", list, impl.Type{}, slices.Repeat([]impl.Clause{clauseOf(anyPat())}, 9))
	checkNoCover(t, "many clauses", list, intType, slices.Repeat([]impl.Clause{guarded(varPat(0), less(0, 3))}, 10000))
	shared := varPat(0)
	for range 100 {
		shared = orPat(shared, shared)
	}
	for _, p := range []impl.Pattern{shared, loop(varPat(0)), ctorPat(1, make([]impl.Pattern, 1000000)...)} {
		checkNoCoverWith(t, "huge patterns", list, impl.Type{}, clauseOf(p))
	}
}

func TestReachedPatternsWithoutClause(t *testing.T) {
	w := mustWorld(t, listWorld)
	for count := range 9 {
		list := slices.Repeat([]impl.Clause{clauseOf(ctorPat(0))}, count)
		for _, i := range []int{-1, count, count + 1, math.MinInt, math.MaxInt} {
			checkNotReached(t, "no such clause", w, impl.Type{}, list, i)
		}
		if left, ok := impl.MissingPatterns(w, impl.Type{}, list); !ok || len(left) != 1 {
			t.Errorf("MissingPatterns of %d clauses = %v, %v", count, left, ok)
		}
	}
}

// coverCase has clauses for a type, what is missing in them, and what reaches each of them, separated by a slash.
type coverCase struct {
	world   string
	t       impl.Type
	clauses string
	missing string
	reached string
}

func checkCovers(t *testing.T, cases []coverCase) {
	t.Helper()
	for _, c := range cases {
		w, _ := impl.ParseWorld(c.world)
		cover := coverageOf(t, rulesOf(w), c.t, mustClauses(t, w, c.t, c.clauses))
		if got := listText(w, c.t, cover.missing); !cover.known || got != c.missing {
			t.Errorf("%q, %v: MissingPatterns(%s) = %s, not %s", c.world, c.t, c.clauses, got, c.missing)
		}
		var texts []string
		for _, reached := range cover.reached {
			texts = append(texts, listText(w, c.t, reached))
		}
		if got := strings.Join(texts, "/"); got != c.reached {
			t.Errorf("%q, %v: ReachedPatterns(%s) = %s, not %s", c.world, c.t, c.clauses, got, c.reached)
		}
	}
}

func TestCoverOfNumbers(t *testing.T) {
	checkCovers(t, []coverCase{
		{"", intType, "", "_", ""}, {"", intType, "_", "", "_"}, {"", intType, "a/b", "", "_/"}, {"", intType, "3/_", "", "3/0-2 4-9"}, {"", intType, "2-5/4-7", "0-1 8-9", "2-5/6-7"}, {"", intType, "4-7/2-5", "0-1 8-9", "4-7/2-3"}, {"", intType, "0-4/5-9", "", "0-4/5-9"}, {"", intType, "0-4/6-9", "5", "0-4/6-9"}, {"", intType, "1-9/0", "", "1-9/0"}, {"", intType, "0-8", "9", "0-8"},
		{"", intType, "3/3", "0-2 4-9", "3/"}, {"", intType, "2-5/3/6", "0-1 7-9", "2-5//6"}, {"", intType, "3/2-5", "0-1 6-9", "3/2 4-5"}, {"", intType, "0/1/2/3/4/5/6/7-9", "", "0/1/2/3/4/5/6/7-9"}, {"", intType, "0/1/2/3/4/5/6/7", "8-9", "0/1/2/3/4/5/6/7"}, {"", intType, "0-9/_/a/b@3", "", "0-9///"},
		// What several clauses cover together.
		{"", intType, "0-3/6-9/4-5/0-9/2-7", "", "0-3/6-9/4-5//"}, {"", intType, "0-3/6-9/2-7/5", "", "0-3/6-9/4-5/"},
		// The parts of one pattern, of which later ones can lie within earlier ones.
		{"", intType, "(0-4|3-9)", "", "0-4 5-9"}, {"", intType, "(3|(2-5|4))", "0-1 6-9", "3 2 4-5"}, {"", intType, "(_|3)/_", "", "_/"}, {"", intType, "(a@1|a@3)/(3|5)/(5|1)", "0 2 4 6-9", "1 3/5/"}, {"", intType, "b@(1-2|8-9)/(a@2-3|a@7-8)/_", "", "1-2 8-9/3 7/0 4-6"},
	})
}

func TestCoverOfLists(t *testing.T) {
	var list impl.Type
	checkCovers(t, []coverCase{
		{listWorld, list, "", "_", ""}, {listWorld, list, "_", "", "_"}, {listWorld, list, "Nil", "Cons(_,_)", "Nil"}, {listWorld, list, "Cons(_,_)", "Nil", "Cons(_,_)"}, {listWorld, list, "Nil/Cons(_,_)/_", "", "Nil/Cons(_,_)/"}, {listWorld, list, "Cons(a,b)/Nil/c@Nil", "", "Cons(_,_)/Nil/"}, {listWorld, list, "Nil/Nil/Nil", "Cons(_,_)", "Nil//"}, {listWorld, list, "_/Nil/Cons(_,_)", "", "_//"}, {listWorld, list, "Nil/a", "", "Nil/Cons(_,_)"},
		{listWorld, list, "Cons(3,a)/_", "", "Cons(3,_)/Nil Cons(0-2,_) Cons(4-9,_)"}, {listWorld, list, "Cons(_,Nil)/Cons(3,_)/_", "", "Cons(_,Nil)/Cons(3,Cons(_,_))/Nil Cons(0-2,Cons(_,_)) Cons(4-9,Cons(_,_))"}, {listWorld, list, "Cons(0-4,_)/Nil/Cons(3,_)/Cons(2-6,Nil)/_/Nil", "", "Cons(0-4,_)/Nil//Cons(5-6,Nil)/Cons(7-9,_) Cons(5-6,Cons(_,_))/"}, {listWorld, list, "Nil/Cons(_,Nil)/Cons(_,Cons(_,Nil))", "Cons(_,Cons(_,Cons(_,_)))", "Nil/Cons(_,Nil)/Cons(_,Cons(_,Nil))"},
		{listWorld, list, "Nil/Cons(0-4,_)/Cons(5-9,_)/_/Cons(3-6,Nil)", "", "Nil/Cons(0-4,_)/Cons(5-9,_)//"}, {listWorld, list, "Cons(0-4,Nil)/Cons(5-9,Nil)/Cons(_,Nil)/Cons(_,_)", "Nil", "Cons(0-4,Nil)/Cons(5-9,Nil)//Cons(5-9,Cons(_,_)) Cons(0-4,Cons(_,_))"}, {listWorld, list, "(Nil|Cons((0-4|5-9),_))/_", "", "Nil Cons(0-4,_) Cons(5-9,_)/"}, {listWorld, list, "(Nil|_)/_", "", "Nil Cons(_,_)/"}, {listWorld, list, "a@Cons(b@(1|2),c)/d@(Nil|Cons(2-3,_))", "Cons(0,_) Cons(4-9,_)", "Cons(1,_) Cons(2,_)/Nil Cons(3,_)"},
		{cubeWorld, list, "Tri(1,_,_)/Tri(_,2,_)/Tri(_,_,3)/End", "Tri(0,0-1,0-2) Tri(0,0-1,4-9) Tri(0,3-9,0-2) Tri(0,3-9,4-9) Tri(2-9,0-1,0-2) Tri(2-9,0-1,4-9) Tri(2-9,3-9,0-2) Tri(2-9,3-9,4-9)", "Tri(1,_,_)/Tri(0,2,_) Tri(2-9,2,_)/Tri(0,0-1,3) Tri(0,3-9,3) Tri(2-9,0-1,3) Tri(2-9,3-9,3)/End"},
		{optWorld, list, "Pair(Non,_)/Pair(_,Non)/Pair(Som(a),Som(b))/_", "", "Pair(Non,_)/Pair(Som(_),Non)/Pair(Som(_),Som(_))/"}, {optWorld, list, "Pair(Som(_),_)/Pair(_,Som(_))", "Pair(Non,Non)", "Pair(Som(_),_)/Pair(Non,Som(_))"},
	})
}

func TestCoverWithGuards(t *testing.T) {
	var list impl.Type
	checkCovers(t, []coverCase{
		// A guard in front of an equal clause, and behind it.
		{listWorld, list, "Cons(a,_) a<3/Cons(a,_)/Nil", "", "Cons(_,_)/Cons(_,_)/Nil"}, {listWorld, list, "Cons(a,_) a<3/Cons(a,_) a<3/Nil", "Cons(_,_)", "Cons(_,_)/Cons(_,_)/Nil"}, {listWorld, list, "Cons(a,_)/Cons(a,_) a<3/Nil", "", "Cons(_,_)//Nil"}, {listWorld, list, "Cons(a,_) a=3/Cons(3,_)/Cons(3,_)", "Nil Cons(0-2,_) Cons(4-9,_)", "Cons(_,_)/Cons(3,_)/"}, {"", intType, "a@3 a=3/3/3", "0-2 4-9", "3/3/"}, {"", intType, "3/a@3 a=3/3", "0-2 4-9", "3//"},
		{listWorld, list, "Nil/Cons(a,_) a<3/Cons(5,_)", "Cons(0-4,_) Cons(6-9,_)", "Nil/Cons(_,_)/Cons(5,_)"}, {listWorld, list, "Cons(0-4,_)/Cons(a@2-6,_) a<5/Cons(a@3-7,_)", "Nil Cons(8-9,_)", "Cons(0-4,_)/Cons(5-6,_)/Cons(5-7,_)"},
		// Guards count as ones that may fail, also where they never fail, always fail, or hold for all values together.
		{"", intType, "a a<9/b b=9", "_", "_/_"}, {"", intType, "a a<0/b", "", "_/_"}, {"", intType, "a@0 a=0/a@1-9", "0", "0/1-9"}, {"", intType, "a a=0/b b<9/_/c c=1", "", "_/_/_/"}, {"", intType, "a a=0/a a=1/a a=2/a a=3/a a=4/a a=5/a a=6/a a=7", "_", "_/_/_/_/_/_/_/_"}, {"", intType, "(a@1|a@2) a=2/(1|2)/_", "", "1 2/1 2/0 3-9"},
		{neverWorld, impl.Type{Data: 1}, "_/_", "", "/"}, {"A=Aa(I,N)|Ab(I);N=Never(N)", list, "Aa(a,_) a<3/Ab(a) a<3/Ab(_)", "", "/Ab(_)/Ab(_)"},
	})
}

func TestCoverWithoutValues(t *testing.T) {
	var first impl.Type
	other := impl.Type{Data: 1}
	const pair = "P=Two(A,A);A=Aa(N)|Ab|Ac(I);N=Never(N)"
	checkCovers(t, []coverCase{
		{neverWorld, first, "", "_", ""}, {neverWorld, first, "Tru/Fls", "", "Tru/Fls"}, {neverWorld, first, "Tru/Fls/May(_)/_", "", "Tru/Fls//"}, {neverWorld, first, "May(_)/Tru", "Fls", "/Tru"}, {neverWorld, first, "May(_)", "Tru Fls", ""}, {neverWorld, first, "May(Never(_))/May(a)/_", "", "//Tru Fls"}, {neverWorld, first, "(May(_)|Tru)/(Fls|May(Never(_)))", "", "Tru/Fls"}, {neverWorld, first, "(May(_)|_)/Tru", "", "Tru Fls/"},
		{neverWorld, other, "", "", ""}, {neverWorld, other, "_", "", ""}, {neverWorld, other, "Never(_)/_", "", "/"}, {neverWorld, other, "Never(Never(_))", "", ""},
		{pair, first, "Two(Ab,_)/Two(Ac(_),_)", "", "Two(Ab,_)/Two(Ac(_),_)"}, {pair, first, "Two(_,Ab)/Two(Aa(_),_)/Two(Ab,_)", "Two(Ac(_),Ac(_))", "Two(_,Ab)//Two(Ab,Ac(_))"}, {pair, first, "Two(Aa(_),Aa(_))/_", "", "/Two(Ab,_) Two(Ac(_),_)"},
		{"L=Nil|Cons(N,L);N=Never(N)", first, "Nil/Cons(_,_)", "", "Nil/"}, {"L=Cons(I,L)", first, "", "", ""}, {"L=Cons(I,L)", first, "Cons(3,_)/_", "", "/"},
	})
}

func TestCoverWithIndices(t *testing.T) {
	e := func(i int) impl.Type { return impl.Type{Index: i} }
	const vec = "V=Nil:1|One(I,V1):2|Two(I,V2):3"
	checkCovers(t, []coverCase{
		{exprWorld, e(1), "Num(_)/Add(_,_)/If(Bol(_),_,_)/If(If(_,_,_),_,_)", "", "Num(_)/Add(_,_)/If(Bol(_),_,_)/If(If(_,_,_),_,_)"}, {exprWorld, e(1), "Num(_)", "Add(_,_) If(_,_,_)", "Num(_)"}, {exprWorld, e(0), "Num(_)", "Bol(_) Add(_,_) If(_,_,_)", "Num(_)"}, {exprWorld, e(2), "Bol(Tru)/Bol(Fls)/If(_,_,_)/_", "", "Bol(Tru)/Bol(Fls)/If(_,_,_)/"}, {exprWorld, e(0), "Num(_)/Add(_,_)/If(_,_,_)/_", "", "Num(_)/Add(_,_)/If(_,_,_)/Bol(_)"},
		// What the index leaves out of the parts.
		{exprWorld, e(1), "Num(_)/Add(Num(_),_)/Add(Add(_,_),_)/If(_,_,_)", "Add(If(_,_,_),_)", "Num(_)/Add(Num(_),_)/Add(Add(_,_),_)/If(_,_,_)"}, {exprWorld, e(1), "If(_,Num(_),_)/If(_,Add(_,_),_)/If(_,If(_,_,_),_)/If(Bol(_),_,_)", "Num(_) Add(_,_)", "If(_,Num(_),_)/If(_,Add(_,_),_)/If(_,If(_,_,_),_)/"}, {exprWorld, e(0), "If(_,Num(_),_)/If(_,Add(_,_),_)/If(_,If(_,_,_),_)/If(Bol(_),_,_)", "Num(_) Bol(_) Add(_,_) If(If(_,_,_),Bol(_),_)", "If(_,Num(_),_)/If(_,Add(_,_),_)/If(_,If(_,_,_),_)/If(Bol(_),Bol(_),_)"},
		// No value has this index.
		{exprWorld, e(3), "", "", ""}, {exprWorld, e(3), "If(_,_,_)/_", "", "/"}, {exprWorld, e(3), "_/If(Bol(Tru),_,_)", "", "/"},
		{vec, e(1), "Nil", "", "Nil"}, {vec, e(1), "_/Nil", "", "_/"}, {vec, e(2), "One(_,Nil)/_", "", "One(_,Nil)/"}, {vec, e(3), "Two(3,One(4,Nil))/Two(_,One(_,_))", "", "Two(3,One(4,Nil))/Two(0-2,One(_,_)) Two(4-9,One(_,_)) Two(3,One(0-3,_)) Two(3,One(5-9,_))"}, {vec, e(0), "Nil/One(_,_)", "Two(_,_)", "Nil/One(_,_)"}, {"L=Nil:2|Cons(L*)", e(1), "", "", ""}, {"L=Nil:2|Cons(L*)", e(1), "Cons(_)", "", ""}, {"L=Nil:2|Cons(L*)", e(2), "Cons(_)", "Nil", "Cons(_)"}, {"L=Nil:2|Cons(L*)", e(0), "Nil/Cons(Nil)", "Cons(Cons(_))", "Nil/Cons(Nil)"}, {"L=Nil:2|Cons(L1)", e(0), "Nil/Cons(_)", "", "Nil/"},
	})
}

func TestMissingValue(t *testing.T) {
	var first impl.Type
	e := func(i int) impl.Type { return impl.Type{Index: i} }
	for _, c := range []struct {
		world   string
		t       impl.Type
		clauses string
		want    string // empty if there is none
	}{
		{"", intType, "", "0"}, {"", intType, "0-3", "4"}, {"", intType, "0-3/5-9", "4"}, {"", intType, "3", "0"}, {"", intType, "0/a a<5", "1"}, {"", intType, "_", ""}, {"", intType, "0-4/5-9", ""}, {listWorld, first, "", "Nil"}, {listWorld, first, "Nil", "Cons(0,Nil)"}, {listWorld, first, "Nil/Cons(a,_) a<3/Cons(5,_)", "Cons(0,Nil)"}, {listWorld, first, "Nil/Cons(_,Nil)/Cons(0-6,_)", "Cons(7,Cons(0,Nil))"}, {listWorld, first, "Cons(_,_)/Nil", ""}, {listWorld, first, "Cons(1,_)", "Nil"},
		{neverWorld, first, "Tru", "Fls"}, {neverWorld, first, "Tru/Fls", ""}, {neverWorld, first, "May(_)", "Tru"}, {neverWorld, impl.Type{Data: 1}, "", ""}, {exprWorld, e(2), "Bol(_)", "If(Bol(Tru),Bol(Tru),Bol(Tru))"}, {exprWorld, e(1), "Num(_)", "Add(Num(0),Num(0))"}, {exprWorld, e(3), "", ""}, {exprWorld, e(0), "Num(_)", "Bol(Tru)"},
		// Something is missing, but the values of it are too deep.
		{chainWorld, first, "", ""}, {chainWorld, e(3), "", ""}, {deepWorld, first, "", "Lo"}, {deepWorld, first, "Lo", ""}, {deepWorld, first, "Lo/Up(_)", ""},
	} {
		w, _ := impl.ParseWorld(c.world)
		v, ok := impl.MissingValue(w, c.t, mustClauses(t, w, c.t, c.clauses))
		if got := impl.FormatValue(w, c.t, v); ok != (c.want != "") || ok && got != c.want || !ok && !isZero(v) || shareMemory([]impl.Value{v}) {
			t.Errorf("MissingValue(%q, %v, %s) = %v, %v, not %s", c.world, c.t, c.clauses, v, ok, c.want)
		}
	}
	deep := mustWorld(t, deepWorld)
	if all, ok := impl.Exhaustive(deep, first, mustClauses(t, deep, first, "Lo")); all || !ok {
		t.Errorf("values that are too deep count as covered: %v, %v", all, ok)
	}
}

func TestClausesMeet(t *testing.T) {
	var first impl.Type
	e := func(i int) impl.Type { return impl.Type{Index: i} }
	for _, c := range []struct {
		world string
		t     impl.Type
		a, b  string
		want  bool
	}{
		{"", intType, "_", "a", true}, {"", intType, "2-5", "5-9", true}, {"", intType, "2-5", "6-9", false}, {"", intType, "(1|3)", "(2|3)", true}, {"", intType, "(1|3)", "(2|4)", false}, {"", intType, "a@3 a=4", "3", true}, {"", intType, "a a<3", "b b=7", true}, {"", intType, "a@0-2 a<3", "b@7 b=7", false},
		{listWorld, first, "Cons(0-4,_)", "Cons(2-6,Nil)", true}, {listWorld, first, "Cons(0-4,_)", "Cons(5-6,Nil)", false}, {listWorld, first, "Nil", "Cons(_,_)", false}, {listWorld, first, "Nil", "Nil", true}, {listWorld, first, "Cons(a,_) a<3", "(Nil|Cons(4,_))", true}, {listWorld, first, "a", "b@Cons(_,c)", true}, {listWorld, first, "Cons(_,Nil)", "Cons(_,Cons(_,_))", false}, {listWorld, first, nested(10), "_", true},
		{neverWorld, first, "May(_)", "_", false}, {neverWorld, first, "May(_)", "May(_)", false}, {neverWorld, first, "(May(_)|Tru)", "(Fls|May(_))", false}, {neverWorld, first, "_", "_", true}, {neverWorld, impl.Type{Data: 1}, "_", "_", false}, {exprWorld, e(3), "_", "If(_,_,_)", false}, {exprWorld, e(1), "If(Bol(_),_,_)", "If(_,Num(3),_)", true}, {exprWorld, e(1), "If(Bol(_),_,_)", "If(If(_,_,_),_,_)", false},
		// The values are too deep to be valid.
		{chainWorld, first, "_", "_", true},
	} {
		w, _ := impl.ParseWorld(c.world)
		a, b := mustClauses(t, w, c.t, c.a)[0], mustClauses(t, w, c.t, c.b)[0]
		for _, pair := range [][2]impl.Clause{{a, b}, {b, a}} {
			if meet, ok := impl.ClausesMeet(w, c.t, pair[0], pair[1]); meet != c.want || !ok {
				t.Errorf("ClausesMeet(%q, %v, %s, %s) = %v, %v", c.world, c.t, c.a, c.b, meet, ok)
			}
		}
	}
}

func TestClausesMeetAtTheLimit(t *testing.T) {
	w := mustWorld(t, cubeWorld)
	whole := clauseOf(anyPat())
	for text, ok := range map[string]bool{cube(8, 5, 1): true, "(" + cube(8, 5, 1) + "|End)": false, cube(7, 6, 1): false, cube(10, 10, 4): false, cube(10, 10, 5): false} {
		c := clauseOf(mustPattern(t, w, impl.Type{}, text))
		if !ok {
			checkNoMeet(t, text, w, impl.Type{}, c, whole)
			checkNoMeet(t, text, w, impl.Type{}, c, c)
		} else if meet, known := impl.ClausesMeet(w, impl.Type{}, c, whole); !meet || !known {
			t.Errorf("ClausesMeet(%s, _) = %v, %v", text, meet, known)
		}
	}
	// What both have in common has too many nodes, or there are too many parts of it.
	wide := mustWorld(t, wideWorld)
	checkNoMeet(t, "too many nodes", wide, impl.Type{}, clauseOf(mustPattern(t, wide, impl.Type{}, "Wi("+wide40+",_)")), clauseOf(mustPattern(t, wide, impl.Type{}, "Wi(_,"+wide22+")")))
	box := mustWorld(t, boxWorld)
	digits := strings.Split("0123456789", "")
	a := mustPattern(t, box, impl.Type{}, "Tri("+spread(digits[:8])+","+spread(digits[:5])+",_)")
	for inner, ok := range map[string]bool{"Tri(_,_,Duo(" + spread(digits) + ",_))": true, "(Tri(_,_,Ont)|Tri(_,_,Duo(" + spread(digits) + ",_)))": false} {
		b := mustPattern(t, box, impl.Type{}, inner)
		if meet, known := impl.ClausesMeet(box, impl.Type{}, clauseOf(a), clauseOf(b)); meet != ok || known != ok {
			t.Errorf("ClausesMeet with %s = %v, %v", inner, meet, known)
		}
	}
}

const (
	// wideWorld has a type whose patterns can have many nodes, although there are few parts when one of them is taken away.
	wideWorld = "W=Wi(A,A);A=Aa(B,B,B);B=Ba(C,C,C);C=Ca(I,I,I)"
	// Patterns for its second type with 19, 22 and 40 nodes.
	wide19  = "Aa(Ba(Ca(_,_,_),Ca(_,_,_),_),_,Ba(_,_,Ca(_,_,1)))"
	wide22  = "Aa(" + wideBox + ",_,Ba(_,_,Ca(_,_,1)))"
	wide40  = "Aa(" + wideBox + "," + wideBox + ",Ba(Ca(_,_,_),Ca(_,_,_),Ca(_,_,1)))"
	wideBox = "Ba(Ca(_,_,_),Ca(_,_,_),Ca(_,_,_))"
)

func TestCoverWithManyParts(t *testing.T) {
	w := mustWorld(t, cubeWorld)
	tri := "Tri(a," + spread(strings.Split("012345", "")) + "," + spread(strings.Split("0123456", "")) + ")"
	allowed := "Tri(a," + spread(strings.Split("01234", "")) + "," + spread(strings.Split("01234567", "")) + ")"
	for _, c := range []struct {
		clauses string
		missing bool
		reached []bool
	}{
		{allowed, true, []bool{true}}, {allowed + " a<3", true, []bool{true}}, {"End/" + allowed + "/_", true, []bool{true, true, true}}, {"_/" + allowed + "/" + allowed, true, []bool{true, true, true}},
		// More than 40 parts, also where nothing is left to take them away from.
		{tri, false, []bool{false}}, {tri + "/_", false, []bool{false, false}}, {"_/" + tri, false, []bool{true, false}}, {"End/" + tri + "/_/End", false, []bool{true, false, false, false}}, {"_/_/" + tri + "/End", false, []bool{true, true, false, false}}, {"(" + allowed + "|" + strings.ReplaceAll(allowed, "0", "9") + ")", false, []bool{false}},
		// With a guard, they are not taken away.
		{tri + " a<3", true, []bool{false}}, {tri + " a<3/_", true, []bool{false, true}}, {"End/" + tri + " a=3/_/End", true, []bool{true, false, true, true}}, {"_/" + tri + " a<3", true, []bool{true, false}}, {tri + " a<3/" + tri, false, []bool{false, false}}, {allowed + " a<3/" + tri + " a<3/" + allowed, true, []bool{true, false, true}},
	} {
		list := mustClauses(t, w, impl.Type{}, c.clauses)
		coverageOf(t, rulesOf(w), impl.Type{}, list)
		checkKnown(t, w, impl.Type{}, list, c.missing, c.reached)
	}
	// Parts that no value matches, and parts that are equal, count, too.
	never := mustWorld(t, "A=Aa(N,I,I)|Ab;N=Never(N)")
	digits := strings.Split("0123456789", "")
	for count, ok := range map[int]bool{8: true, 9: false} {
		for _, text := range []string{"Aa(_," + spread(digits[:count]) + "," + spread(digits[:5]) + ")", "(Ab|" + spread(slices.Repeat([]string{"Ab"}, 3*count-1)) + ")"} {
			enough := ok || text[0] == '('
			list := mustClauses(t, never, impl.Type{}, text)
			coverageOf(t, rulesOf(never), impl.Type{}, list)
			checkKnown(t, never, impl.Type{}, list, enough, []bool{enough})
		}
	}
	same := func(count int) string {
		return "Tri(_," + spread(slices.Repeat([]string{"1"}, count)) + "," + spread(slices.Repeat([]string{"_"}, 5)) + ")"
	}
	checkKnown(t, w, impl.Type{}, mustClauses(t, w, impl.Type{}, same(8)), true, []bool{true})
	checkKnown(t, w, impl.Type{}, mustClauses(t, w, impl.Type{}, same(9)), false, []bool{false})
}

// checkKnown checks whether it is known what is missing in clauses, and what reaches each one.
func checkKnown(t *testing.T, w []impl.Data, ty impl.Type, list []impl.Clause, missing bool, reached []bool) {
	t.Helper()
	text := impl.FormatClauses(w, ty, list)
	if _, ok := impl.MissingPatterns(w, ty, list); ok != missing {
		t.Errorf("MissingPatterns(%s) returns %v", text, ok)
	}
	if !missing {
		checkNothingMissing(t, text, w, ty, list)
	}
	for i, want := range reached {
		if _, ok := impl.ReachedPatterns(w, ty, list, i); ok != want {
			t.Errorf("ReachedPatterns(%s, %d) returns %v", text, i, ok)
		}
		if !want {
			checkNotReached(t, text, w, ty, list, i)
		}
	}
	if slices.Contains(reached, false) {
		checkNotRedundant(t, text, w, ty, list)
	} else if _, ok := impl.RedundantClauses(w, ty, list); !ok {
		t.Errorf("RedundantClauses(%s) returns false", text)
	}
}

func TestCoverAtTheLimit(t *testing.T) {
	const odds, four = "(1|(3|(5|(7|9))))", "(1|(3|(5|7)))"
	// With 16 parts for the last of the Kids and 5 for each of the others, there are 400.
	grid := []string{"Tri(_,_,Duo(" + odds + ",1))", "Tri(" + four + ",_,_)", "Tri(_," + four + ",_)"}
	all := strings.Join(grid, "/")
	const never = "T=Tri(I,I,U)|Not(N);U=Duo(I,I)|Ont;N=Never(N)"
	for _, c := range []struct {
		world, clauses string
		missing        int // -1 if it is not known
		reached        []bool
	}{
		{boxWorld, "End/" + all, 400, []bool{true, true, true, true}}, {boxWorld, all, -1, []bool{true, true, true}}, {never, all, 400, []bool{true, true, true}}, {boxWorld, all + "/_", -1, []bool{true, true, true, false}}, {boxWorld, "End/" + all + "/_", 0, []bool{true, true, true, true, true}}, {boxWorld, all + "/End", -1, []bool{true, true, true, true}},
		// There are too many after one step only, or after the last one, or nothing is left before.
		{boxWorld, all + "/Tri(0,_,_)/_", -1, []bool{true, true, true, true, false}}, {boxWorld, "_/" + all + "/_", 0, []bool{true, true, true, true, true}}, {boxWorld, "End/" + all + "/Tri(0,0,Ont)/_/_", 0, []bool{true, true, true, true, true, true, true}}, {boxWorld, "End/" + all + "/Tri(0,0,Duo(4,4))", -1, []bool{true, true, true, true, true}}, {boxWorld, "End/" + all + "/Tri(0,0,Duo(4,4))/a@End", -1, []bool{true, true, true, true, true, true}}, {boxWorld, "End/" + all + "/Tri(a,0,Duo(4,4)) a<3/Tri(0,_,Ont)", 395, []bool{true, true, true, true, true, true}},
	} {
		w := mustWorld(t, c.world)
		list := mustClauses(t, w, impl.Type{}, c.clauses)
		cover := coverageOf(t, rulesOf(w), impl.Type{}, list)
		checkKnown(t, w, impl.Type{}, list, c.missing >= 0, c.reached)
		if len(cover.missing) != max(0, c.missing) {
			t.Errorf("MissingPatterns(%s): %d, not %d", c.clauses, len(cover.missing), c.missing)
		}
	}
}

func TestCoverThatIsTooLarge(t *testing.T) {
	list := mustWorld(t, listWorld)
	for depth := 1; depth <= 10; depth++ {
		// In place of the last Nil, there is a Cons with Kids.
		few := depth < 10
		for text, reached := range map[string][]bool{nested(depth): {true}, "_/" + nested(depth): {true, true}, nested(depth) + "/_": {true, few}, nested(depth) + "/_/_": {true, few, true}, nested(depth) + "/Nil/_/Cons(_,_)": {true, true, few, true}} {
			clauses := mustClauses(t, list, impl.Type{}, text)
			coverageOf(t, rulesOf(list), impl.Type{}, clauses)
			// A part that is too large in between does not count, but only one in the result.
			checkKnown(t, list, impl.Type{}, clauses, few || len(reached) > 1, reached)
		}
	}
	// No value matches what would be too deep.
	never := mustWorld(t, "S=Suc(S)|Big(B);B=Tru|May(N);N=Never(N)")
	deep := strings.Repeat("Suc(", 8) + "Big(Tru)" + strings.Repeat(")", 8)
	checkKnown(t, never, impl.Type{}, mustClauses(t, never, impl.Type{}, deep+"/_"), true, []bool{true, true})
	if left, ok := impl.MissingPatterns(never, impl.Type{}, mustClauses(t, never, impl.Type{}, deep)); !ok || len(left) != 9 {
		t.Errorf("MissingPatterns(%s) = %s, %v", deep, listText(never, impl.Type{}, left), ok)
	}
	wide := mustWorld(t, wideWorld)
	const first = "Wi(" + wide40 + ",_)"
	for text, want := range map[string][]bool{
		first: {true, true}, first + "/Wi(_," + wide19 + ")": {true, true, true}, first + "/Wi(_," + wide22 + ")": {false, true, false}, first + "/Wi(_," + wide40 + ")": {false, true, false}, first + "/Wi(_," + wide22 + ")/_": {true, true, false, false}, first + "/Wi(_," + wide22 + ")/_/_": {true, true, false, false, true}, first + "/Wi(_," + wide19 + ")/_": {true, true, true, true},
	} {
		clauses := mustClauses(t, wide, impl.Type{}, text)
		coverageOf(t, rulesOf(wide), impl.Type{}, clauses)
		checkKnown(t, wide, impl.Type{}, clauses, want[0], want[1:])
	}
}

// cutApart are patterns for all values of a type, cut apart at random so many times, which are joined if they are more than eight.
func cutApart(r *rand.Rand, w []impl.Data, ty impl.Type, times int) []impl.Pattern {
	list := []impl.Pattern{anyPat()}
	for range times {
		// The index of a type can leave out all constructors.
		if len(list) == 0 {
			break
		}
		i := r.IntN(len(list))
		list = slices.Concat(list[:i], cutOnce(r, w, ty, list[i]), list[i+1:])
	}
	r.Shuffle(len(list), func(i, j int) { list[i], list[j] = list[j], list[i] })
	for len(list) > 8 {
		last := len(list) - 1
		list[0] = orPat(list[0], list[last])
		list = list[:last]
		slices.Reverse(list)
	}
	return list
}

// cutOnce are patterns for what matches p, which has no variables and no PatOr.
func cutOnce(r *rand.Rand, w []impl.Data, ty impl.Type, p impl.Pattern) []impl.Pattern {
	var list []impl.Pattern
	if ty == intType {
		n := r.IntN(9)
		low, _ := overlap(p, intPat(0, n))
		high, _ := overlap(p, intPat(n+1, 9))
		return slices.DeleteFunc([]impl.Pattern{low, high}, func(p impl.Pattern) bool { return p.N > p.M })
	}
	if p.Op == impl.PatAny {
		for c := range w[ty.Data].Ctors {
			if types, ok := kidTypes(w, ty, c); ok {
				list = append(list, ctorPat(c, slices.Repeat([]impl.Pattern{anyPat()}, len(types))...))
			}
		}
		return list
	}
	if len(p.Kids) == 0 {
		return []impl.Pattern{p}
	}
	i := r.IntN(len(p.Kids))
	types, _ := kidTypes(w, ty, p.Ctor)
	for _, kid := range cutOnce(r, w, types[i], p.Kids[i]) {
		list = append(list, ctorPat(p.Ctor, slices.Concat(p.Kids[:i], []impl.Pattern{kid}, p.Kids[i+1:])...))
	}
	return list
}

// randomCover are clauses for a type, of which many cover what others do.
func randomCover(r *rand.Rand, w []impl.Data, ty impl.Type) []impl.Clause {
	var list []impl.Clause
	switch r.IntN(4) {
	case 0:
		list = randomClauses(r, w, ty, 4)
	case 1:
		for range 1 + r.IntN(5) {
			list = append(list, clauseOf(randomParts(r, w, ty, 3+r.IntN(57))))
		}
	default:
		for _, p := range cutApart(r, w, ty, 1+r.IntN(6)) {
			list = append(list, clauseOf(p))
		}
	}
	for range r.IntN(3) {
		if len(list) == 0 {
			break
		}
		i, j := r.IntN(len(list)), r.IntN(len(list)+1)
		c := list[i]
		switch r.IntN(6) {
		case 0:
			list = slices.Delete(list, i, i+1)
			continue
		case 1:
			c.Pat = randomPattern(r, w, ty, 3, []int{0, 1})
			c.Guard = randomGuard(r, w, ty, c.Pat)
		case 2:
			c.Pat = anyPat()
			c.Guard = impl.Guard{}
		case 3:
			c.Guard = randomGuard(r, w, ty, c.Pat)
		case 4:
			// A guard for a variable in place of the first number.
			if p, v := withVar(c.Pat); v && c.Guard.Op == 0 {
				c = guarded(p, impl.Guard{Op: 1 + r.IntN(2), Var: 5, N: r.IntN(10)})
			}
		}
		if len(list) < 8 {
			list = slices.Insert(list, j, c)
		} else {
			list[i] = c
		}
	}
	return list
}

// withVar is p with the last variable for the first range of numbers in it that is not inside of a PatOr, if there is one.
func withVar(p impl.Pattern) (impl.Pattern, bool) {
	if p.Op == impl.PatInt {
		return asPat(5, p), true
	}
	for i, kid := range p.Kids {
		if kid, ok := withVar(kid); ok && p.Op != impl.PatOr {
			p.Kids = slices.Clone(p.Kids)
			p.Kids[i] = kid
			return p, true
		}
	}
	return p, false
}

// matchingValues are values of a type, among them some that match clauses, or what is missing in them.
func matchingValues(r *rand.Rand, w []impl.Data, ty impl.Type, list []impl.Clause, missing []impl.Pattern) []impl.Value {
	values := someValues(r, w, ty)
	for _, p := range slices.Concat(patternsOf(list), patternsOf(list), missing) {
		if v, ok := instance(r, w, ty, p); ok && impl.ValueValid(w, ty, v) {
			values = append(values, v)
		}
	}
	return values
}

// checkDropped checks that clauses without the redundant ones choose the same for values, and returns how many choose one.
func checkDropped(t *testing.T, w []impl.Data, ty impl.Type, list []impl.Clause, redundant []int, values []impl.Value) int {
	t.Helper()
	dropped, _ := impl.DropRedundant(w, ty, list)
	count := 0
	for _, v := range values {
		i, binds, ok := impl.RunClauses(w, ty, list, v)
		want := i
		for _, place := range redundant {
			if place == i {
				t.Fatalf("%q, %v: the clause %d of %s is redundant, but %v chooses it", impl.FormatWorld(w), ty, i, impl.FormatClauses(w, ty, list), v)
			}
			if place < i {
				want--
			}
		}
		got, others, same := impl.RunClauses(w, ty, dropped, v)
		if !ok || !same || got != want || !equalBinds(mapOf(binds), mapOf(others)) {
			t.Fatalf("%q, %v: %v chooses %d in %s, and %d without the redundant clauses", impl.FormatWorld(w), ty, v, i, impl.FormatClauses(w, ty, list), got)
		}
		if i >= 0 {
			count++
		}
	}
	return count
}

func TestRandomCover(t *testing.T) {
	r := rand.New(rand.NewPCG(26, 26))
	invalid, unknown, whole, redundant, missing, reached, run := 0, 0, 0, 0, 0, 0, 0
	for range 2500 {
		w, ty := randomUsed(r)
		list := randomCover(r, w, ty)
		if r.IntN(20) == 0 {
			list = changedClauses(r, list)
		}
		if !impl.ClausesValid(w, ty, list) {
			invalid++
			checkNoCover(t, "not valid", w, ty, list)
			continue
		}
		// Clauses that are read share no memory with each other.
		list = mustClauses(t, w, ty, impl.FormatClauses(w, ty, list))
		x := rulesOf(w)
		cover := coverageOf(t, x, ty, list)
		if !cover.known {
			unknown++
			continue
		}
		redundant += len(cover.redundant)
		values := matchingValues(r, w, ty, list, cover.missing)
		missing += checkParts(t, x, ty, cover.missing, values, func(v impl.Value) bool { return !isCovered(list, v) })
		for i, c := range list {
			reached += checkParts(t, x, ty, cover.reached[i], values, func(v impl.Value) bool { return fits(c.Pat, v) && !isCovered(list[:i], v) })
		}
		if len(cover.missing) == 0 && x.has[ty] {
			whole++
		}
		run += checkDropped(t, w, ty, list, cover.redundant, values)
	}
	if invalid < 80 || unknown < 25 || whole < 1000 || redundant < 2500 || missing < 5000 || reached < 30000 || run < 30000 {
		t.Errorf("only %d lists are not valid, %d have unknown coverage, %d cover all values, %d clauses are redundant, %d values are missing, %d reach a clause, %d choose one", invalid, unknown, whole, redundant, missing, reached, run)
	}
}

func TestRandomClausesMeet(t *testing.T) {
	r := rand.New(rand.NewPCG(27, 27))
	meeting, apart, unknown := 0, 0, 0
	for range 5000 {
		w, ty := randomUsed(r)
		x := rulesOf(w)
		p, q := randomPair(r, w, ty)
		a, b := guarded(p, randomGuard(r, w, ty, p)), guarded(q, randomGuard(r, w, ty, q))
		meet, ok := impl.ClausesMeet(w, ty, a, b)
		var both []impl.Pattern
		has := impl.ClauseValid(w, ty, a) && impl.ClauseValid(w, ty, b)
		if has {
			both, has = x.meetOf(ty, p, q)
		}
		if ok != has || meet != (ok && len(both) > 0) {
			t.Fatalf("%q, %v: ClausesMeet(%v, %v) = %v, %v, not %d, %v", impl.FormatWorld(w), ty, a, b, meet, ok, len(both), has)
		}
		switch {
		case !ok:
			unknown++
		case meet:
			meeting++
		default:
			apart++
			for _, v := range matchingValues(r, w, ty, []impl.Clause{a, b}, nil) {
				if fits(p, v) && fits(q, v) {
					t.Fatalf("%q, %v: %v matches both of %v and %v", impl.FormatWorld(w), ty, v, p, q)
				}
			}
		}
	}
	if meeting < 1000 || apart < 500 || unknown < 300 {
		t.Errorf("only %d pairs meet, %d do not, for %d it is not known", meeting, apart, unknown)
	}
}

func TestCoverLeavesArguments(t *testing.T) {
	w := mustWorld(t, optWorld)
	text := "f@Pair((a@Som(b@(1|2))|a@Som(b)),(Non|Som(_))) b<5/Pair(Som((1|2)),_)/Pair(Som(1),_)/Pair(_,Som(d)) d=3"
	spare := append(mustClauses(t, w, impl.Type{}, text), guarded(varPat(5), equal(5, 5)))
	list := spare[:4]
	missing, _ := impl.MissingPatterns(w, impl.Type{}, list)
	v, _ := impl.MissingValue(w, impl.Type{}, list)
	impl.Exhaustive(w, impl.Type{}, list)
	first, _ := impl.ReachedPatterns(w, impl.Type{}, list, 0)
	last, _ := impl.ReachedPatterns(w, impl.Type{}, list, 3)
	redundant, _ := impl.RedundantClauses(w, impl.Type{}, list)
	kept, _ := impl.DropRedundant(w, impl.Type{}, list)
	impl.ClausesMeet(w, impl.Type{}, list[0], list[1])
	if len(missing) != 3 || len(first) != 8 || len(last) != 3 || len(redundant) != 1 || len(kept) != 3 {
		t.Errorf("%v, %v, %v, %v, %v", missing, first, last, redundant, kept)
	}
	// What is written into results is not seen in arguments.
	for _, p := range slices.Concat(missing, first, last, patternsOf(kept)) {
		for i := range p.Kids {
			p.Kids[i].Op = 99
		}
		_ = append(p.Kids, anyPat())
	}
	v.Kids[0].Ctor = 99
	if impl.FormatClauses(w, impl.Type{}, list) != text || spare[4].Guard != equal(5, 5) || impl.FormatWorld(w) != optWorld {
		t.Errorf("arguments are changed: %v", spare)
	}
}
