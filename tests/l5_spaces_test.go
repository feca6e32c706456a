package tests

import (
	"math"
	"math/rand/v2"
	"slices"
	"strings"
	"testing"

	"loop.example/matchcompiler/impl"
)

const (
	neverWorld = "B=Tru|Fls|May(N);N=Never(N)"
	boxWorld   = "T=Tri(I,I,U)|End;U=Duo(I,I)|Ont"
)

// rules are the rules of the definition for a world, with its types that have values.
type rules struct {
	w   []impl.Data
	has map[impl.Type]bool
}

func rulesOf(w []impl.Data) rules {
	has := map[impl.Type]bool{intType: true}
	for d := range w {
		for i := range 4 {
			ty := impl.Type{Data: d, Index: i}
			has[ty] = impl.Inhabited(w, ty)
		}
	}
	return rules{w, has}
}

// isVoid reports whether no value matches a pattern.
func (x rules) isVoid(t impl.Type, p impl.Pattern) bool {
	switch p.Op {
	case impl.PatAny, impl.PatVar:
		return !x.has[t]
	case impl.PatOr:
		return x.isVoid(t, p.Kids[0]) && x.isVoid(t, p.Kids[1])
	case impl.PatAs:
		return x.isVoid(t, p.Kids[0])
	case impl.PatCtor:
		types, _ := kidTypes(x.w, t, p.Ctor)
		for i, kid := range types {
			if x.isVoid(kid, p.Kids[i]) {
				return true
			}
		}
	}
	return false
}

// bareOf is a pattern without its variables, where PatAs without Kids stays.
func bareOf(p impl.Pattern) impl.Pattern {
	if p.Op == impl.PatVar {
		return anyPat()
	}
	if p.Op == impl.PatAs && len(p.Kids) > 0 {
		return bareOf(p.Kids[0])
	}
	kids := []impl.Pattern{}
	for _, kid := range p.Kids {
		kids = append(kids, bareOf(kid))
	}
	p.Kids = kids
	return p
}

// overlap is what two parts have in common, if there is anything.
func overlap(a, b impl.Pattern) (impl.Pattern, bool) {
	if a.Op == impl.PatAny || b.Op == impl.PatAny {
		if a.Op == impl.PatAny {
			a = b
		}
		return a, true
	}
	if a.Op == impl.PatInt {
		p := intPat(max(a.N, b.N), min(a.M, b.M))
		return p, p.N <= p.M
	}
	ok := a.Ctor == b.Ctor
	p := ctorPat(a.Ctor)
	for i := 0; ok && i < len(a.Kids); i++ {
		var kid impl.Pattern
		kid, ok = overlap(a.Kids[i], b.Kids[i])
		p.Kids = append(p.Kids, kid)
	}
	return p, ok
}

// takenAway are the parts that are left of a part when another one is taken away, rule by rule.
func (x rules) takenAway(t impl.Type, a, b impl.Pattern) []impl.Pattern {
	var list []impl.Pattern
	switch {
	case b.Op == impl.PatAny:
		return nil
	case b.Op == impl.PatInt:
		for n := range 10 {
			isOf := a.Op == impl.PatAny || a.N <= n && n <= a.M
			if last := len(list) - 1; isOf && n < b.N && last >= 0 || isOf && n > b.M+1 && last >= 0 && list[last].N > b.M {
				list[last].M = n
			} else if isOf && (n < b.N || n > b.M) {
				list = append(list, intPat(n, n))
			}
		}
		return list
	case a.Op == impl.PatAny:
		for c := range x.w[t.Data].Ctors {
			if types, ok := kidTypes(x.w, t, c); ok {
				list = append(list, x.takenAway(t, ctorPat(c, slices.Repeat([]impl.Pattern{anyPat()}, len(types))...), b)...)
			}
		}
		return list
	case a.Ctor != b.Ctor:
		return []impl.Pattern{a}
	}
	types, _ := kidTypes(x.w, t, a.Ctor)
	for i := range types {
		front := []impl.Pattern{}
		for j := range i {
			both, ok := overlap(a.Kids[j], b.Kids[j])
			if !ok {
				return list
			}
			front = append(front, both)
		}
		for _, part := range x.takenAway(types[i], a.Kids[i], b.Kids[i]) {
			list = append(list, ctorPat(a.Ctor, slices.Concat(front, []impl.Pattern{part}, a.Kids[i+1:])...))
		}
	}
	return list
}

// leftOf are the parts that are left of a list when another one is taken away, and false if there are too many.
func (x rules) leftOf(t impl.Type, list, away []impl.Pattern) ([]impl.Pattern, bool) {
	isEmpty := func(p impl.Pattern) bool { return x.isVoid(t, p) }
	list = slices.DeleteFunc(slices.Clone(list), isEmpty)
	for _, b := range away {
		var next []impl.Pattern
		for _, a := range list {
			next = append(next, x.takenAway(t, a, b)...)
		}
		list = slices.DeleteFunc(next, isEmpty)
		if len(list) > 400 {
			return nil, false
		}
	}
	return list, true
}

func (x rules) separated(t impl.Type, list []impl.Pattern) ([]impl.Pattern, bool) {
	var all []impl.Pattern
	for i, p := range list {
		left, ok := x.leftOf(t, []impl.Pattern{p}, list[:i])
		if !ok {
			return nil, false
		}
		all = append(all, left...)
	}
	return all, len(all) <= 400
}

// partsTogether are the parts of two valid patterns, and whether there are at most 40 for each.
func partsTogether(a, b impl.Pattern) (first, second []impl.Pattern, ok bool) {
	first, second = chosen(bareOf(a), nil), chosen(bareOf(b), nil)
	return first, second, len(first) <= 40 && len(second) <= 40
}

func finishedList(list []impl.Pattern, ok bool) ([]impl.Pattern, bool) {
	isLarge := func(p impl.Pattern) bool { return patternSize(p) > 60 || patternHeight(p) > 10 }
	if !ok || slices.ContainsFunc(list, isLarge) {
		return nil, false
	}
	return list, true
}

func (x rules) minusOf(t impl.Type, a, b impl.Pattern) ([]impl.Pattern, bool) {
	first, second, ok := partsTogether(a, b)
	if !ok {
		return nil, false
	}
	list, ok := x.separated(t, first)
	if ok {
		list, ok = x.leftOf(t, list, second)
	}
	return finishedList(list, ok)
}

func (x rules) meetOf(t impl.Type, a, b impl.Pattern) ([]impl.Pattern, bool) {
	first, second, ok := partsTogether(a, b)
	if !ok {
		return nil, false
	}
	var both []impl.Pattern
	for _, p := range first {
		for _, q := range second {
			if c, has := overlap(p, q); has {
				both = append(both, c)
			}
		}
	}
	list, ok := x.separated(t, both)
	return finishedList(list, ok)
}

// fits reports whether a value matches a pattern of any kind.
func fits(p impl.Pattern, v impl.Value) bool {
	i, _ := firstMatch(chosen(p, nil), v)
	return i >= 0
}

// checkNoSpace checks the results of all functions for a pattern that is not valid, alone and beside another one.
func checkNoSpace(t *testing.T, name string, w []impl.Data, ty impl.Type, p impl.Pattern) {
	t.Helper()
	if impl.EmptyPattern(w, ty, p) {
		t.Errorf("%s: a pattern for %v with Op %d is empty", name, ty, p.Op)
	}
	if v, ok := impl.SamplePattern(w, ty, p); ok || !isZero(v) {
		t.Errorf("%s: SamplePattern(%v, Op %d) = %v, %v", name, ty, p.Op, v, ok)
	}
	for _, other := range []impl.Pattern{anyPat(), ctorPat(0), p} {
		checkNoResult(t, name, w, ty, p, other)
		checkNoResult(t, name, w, ty, other, p)
	}
}

// checkNoResult checks that there are no results for two patterns.
func checkNoResult(t *testing.T, name string, w []impl.Data, ty impl.Type, a, b impl.Pattern) {
	t.Helper()
	if list, ok := impl.MinusPatterns(w, ty, a, b); ok || len(list) != 0 {
		t.Errorf("%s: MinusPatterns(%v, Op %d, Op %d) = %v, %v", name, ty, a.Op, b.Op, list, ok)
	}
	if in, ok := impl.WithinPattern(w, ty, a, b); ok || in {
		t.Errorf("%s: WithinPattern(%v, Op %d, Op %d) = %v, %v", name, ty, a.Op, b.Op, in, ok)
	}
	if list, ok := impl.MeetPatterns(w, ty, a, b); ok || len(list) != 0 {
		t.Errorf("%s: MeetPatterns(%v, Op %d, Op %d) = %v, %v", name, ty, a.Op, b.Op, list, ok)
	}
}

func TestSpacesOfInvalidTypes(t *testing.T) {
	eachInvalidType(t, func(name string, w []impl.Data, ty impl.Type) {
		for _, p := range []impl.Pattern{anyPat(), varPat(0), intPat(0, 9), ctorPat(0), asPat(0, anyPat()), orPat(anyPat(), anyPat())} {
			checkNoSpace(t, name, w, ty, p)
		}
	})
}

func TestSpacesOfInvalidPatterns(t *testing.T) {
	never := mustWorld(t, neverWorld)
	for _, p := range []impl.Pattern{
		{}, {Op: 7}, {Op: math.MinInt}, {Op: impl.PatAny, N: 1}, varPat(6), varPat(-1), intPat(0, 0), ctorPat(3), ctorPat(-1), ctorPat(0, anyPat()), ctorPat(2), ctorPat(2, anyPat(), anyPat()), ctorPat(2, intPat(0, 0)), ctorPat(2, ctorPat(1)),
		orPat(), orPat(anyPat()), orPat(anyPat(), varPat(0)), orPat(varPat(0), varPat(1)), asPat(0), asPat(0, anyPat(), anyPat()), asPat(0, varPat(0)), ctorPat(2, orPat(varPat(0), anyPat())),
	} {
		checkNoSpace(t, "booleans", never, impl.Type{}, p)
	}
	// Nothing matches these, but they are no patterns.
	for _, p := range []impl.Pattern{{}, intPat(0, 9), ctorPat(0), ctorPat(0, intPat(1, 1)), ctorPat(1), asPat(7, anyPat()), {Op: impl.PatVar, Ctor: 1}} {
		if impl.EmptyPattern(never, impl.Type{Data: 1}, p) || impl.EmptyPattern(never, impl.Type{Data: 1}, ctorPat(0, p)) {
			t.Errorf("%v is empty", p)
		}
	}
	for _, p := range []impl.Pattern{intPat(5, 4), intPat(-1, 3), intPat(3, 10), ctorPat(0)} {
		checkNoSpace(t, "numbers", never, intType, p)
	}
	expr := mustWorld(t, exprWorld)
	for i, p := range []impl.Pattern{ctorPat(1, anyPat()), ctorPat(0, anyPat()), ctorPat(3, ctorPat(0, anyPat()), anyPat(), anyPat())} {
		checkNoSpace(t, "an index that leaves a constructor out", expr, impl.Type{Index: i + 1}, p)
	}
	list := mustWorld(t, listWorld)
	deep := mustPattern(t, list, impl.Type{}, nested(10))
	checkNoSpace(t, "depth 11", list, impl.Type{}, ctorPat(1, anyPat(), deep))
	// With its variables, a pattern can be too large, even if it is not without them.
	checkNoSpace(t, "depth 11 with variables", list, impl.Type{}, asPat(0, deep))
}

func TestEmptyPattern(t *testing.T) {
	for _, c := range []struct {
		world        string
		t            impl.Type
		empty, whole string
	}{
		{"", intType, "", "_ a 0 0-9 (1|2) a@3"}, {listWorld, impl.Type{}, "", "_ b Nil Cons(_,_) Cons(0,Nil) (Nil|_) a@Cons(b,c)"}, {"N=Never(N)", impl.Type{}, "_ a Never(_) Never(Never(a)) (_|_) (Never(_)|_) b@_ (a|a@Never(_))", ""}, {"N=Never(N)", impl.Type{Index: 3}, "_ Never(_)", ""},
		{neverWorld, impl.Type{}, "May(_) May(a) May(Never(_)) (May(_)|May(Never(_))) a@May(b)", "_ c Tru Fls (Tru|May(_)) (May(_)|Tru) (May(_)|_) a@_ b@(May(_)|Fls)"}, {neverWorld, impl.Type{Data: 1}, "_ Never(_)", ""},
		// One of the Kids without values is enough, wherever it is.
		{"A=Aa(N,I)|Ab(I,N)|Ac(I,N,I)|Ad;N=Never(N)", impl.Type{}, "Aa(_,_) Aa(_,3) Ab(_,_) Ab(2-5,a) Ac(1,_,2) (Aa(_,_)|(Ab(_,_)|Ac(_,_,_)))", "_ Ad (Aa(_,_)|(Ad|Ab(_,_)))"}, {"A=Aa(B)|Ab;B=Mk(A,N);N=Never(N)", impl.Type{}, "Aa(_) Aa(Mk(_,_)) Aa(Mk(Ab,_))", "_ Ab"},
		// The values of a type do not have to be valid.
		{chainWorld, impl.Type{Index: 3}, "", "_ Dz(_) a@Dz(b)"},
		// What depends on the index, also in parts.
		{exprWorld, impl.Type{}, "", "_ If(_,_,_) If(_,Num(_),Bol(_))"}, {exprWorld, impl.Type{Index: 3}, "_ a If(_,_,_) If(Bol(Tru),_,_) If(_,If(_,_,_),_)", ""}, {exprWorld, impl.Type{Index: 1}, "", "_ Num(_) If(_,_,_)"}, {"L=Nil:2|Cons(L*)", impl.Type{Index: 1}, "_ Cons(_) Cons(Cons(a))", ""}, {"L=Nil:2|Cons(L*)", impl.Type{}, "", "_ Cons(_) Nil Cons(Nil)"}, {"L=Nil:2|Cons(L1)", impl.Type{}, "Cons(_) Cons(Cons(_))", "_ Nil"},
	} {
		w, _ := impl.ParseWorld(c.world)
		for want, texts := range map[bool]string{true: c.empty, false: c.whole} {
			for _, text := range strings.Fields(texts) {
				p := mustPattern(t, w, c.t, text)
				if impl.EmptyPattern(w, c.t, p) != want || rulesOf(w).isVoid(c.t, p) != want {
					t.Errorf("EmptyPattern(%q, %v, %s) is not %v", c.world, c.t, text, want)
				}
				if v, ok := impl.SamplePattern(w, c.t, p); want && (ok || !isZero(v)) {
					t.Errorf("SamplePattern(%q, %v, %s) = %v, %v", c.world, c.t, text, v, ok)
				}
			}
		}
	}
}

// pairCase has two patterns for a type, and the patterns that are made of them.
type pairCase struct {
	world string
	t     impl.Type
	a, b  string
	want  string
}

// checkPairs checks the results of a function for two patterns, where the way from the definition is another one.
func checkPairs(t *testing.T, name string, cases []pairCase, call func(w []impl.Data, t impl.Type, a, b impl.Pattern) ([]impl.Pattern, bool), way func(x rules, t impl.Type, a, b impl.Pattern) ([]impl.Pattern, bool)) {
	t.Helper()
	for _, c := range cases {
		w, _ := impl.ParseWorld(c.world)
		a, b := mustPattern(t, w, c.t, c.a), mustPattern(t, w, c.t, c.b)
		list, ok := call(w, c.t, a, b)
		if got := listText(w, c.t, list); got != c.want || !ok || sharePatterns(append(list, a, b)) {
			t.Errorf("%s(%q, %s, %s) = %s, %v, not %s", name, c.world, c.a, c.b, got, ok, c.want)
		}
		other, _ := way(rulesOf(w), c.t, a, b)
		if got := listText(w, c.t, other); got != c.want {
			t.Errorf("%s(%q, %s, %s) is %s by definition, not %s", name, c.world, c.a, c.b, got, c.want)
		}
	}
}

func TestMinusPatterns(t *testing.T) {
	var list, even impl.Type
	e := func(i int) impl.Type { return impl.Type{Index: i} }
	checkPairs(t, "MinusPatterns", []pairCase{
		{"", intType, "_", "3", "0-2 4-9"}, {"", intType, "_", "0", "1-9"}, {"", intType, "_", "9", "0-8"}, {"", intType, "_", "0-9", ""}, {"", intType, "_", "_", ""}, {"", intType, "a", "b", ""}, {"", intType, "3", "3", ""}, {"", intType, "3", "2-4", ""}, {"", intType, "3", "4", "3"}, {"", intType, "2-5", "_", ""}, {"", intType, "_", "2-8", "0-1 9"},
		// Ranges that touch, overlap or contain each other.
		{"", intType, "2-5", "3-4", "2 5"}, {"", intType, "2-5", "5-7", "2-4"}, {"", intType, "2-5", "0-2", "3-5"}, {"", intType, "2-5", "6-9", "2-5"}, {"", intType, "2-5", "0-1", "2-5"}, {"", intType, "2-5", "2-5", ""}, {"", intType, "2-5", "2", "3-5"}, {"", intType, "2-5", "5", "2-4"}, {"", intType, "2-5", "8", "2-5"},
		{"", intType, "_", "(0-4|5-9)", ""}, {"", intType, "_", "(0-4|6-9)", "5"}, {"", intType, "_", "(3|4)", "0-2 5-9"}, {"", intType, "_", "(4|3)", "0-2 5-9"}, {"", intType, "_", "(2|(4|6))", "0-1 3 5 7-9"}, {"", intType, "(0-4|5-9)", "4-5", "0-3 6-9"}, {"", intType, "(0-4|5-9)", "_", ""}, {"", intType, "0-9", "(0-3|(3-6|6-9))", ""},
		// What stands twice in the first pattern is in the result once.
		{"", intType, "(0-4|4-9)", "9", "0-4 5-8"}, {"", intType, "(3|(3|3))", "5", "3"}, {"", intType, "(2-3|(3-6|1-9))", "0", "2-3 4-6 1 7-9"}, {"", intType, "(_|3)", "5", "0-4 6-9"}, {"", intType, "(3|_)", "5", "3 0-2 4 6-9"},
		{"", intType, "(a@1|a@3)", "3", "1"}, {"", intType, "b@(a@2-4|a)", "c@(b@4|b@9)", "2-3 0-1 5-8"},
		{listWorld, list, "_", "Cons(3,Nil)", "Nil Cons(0-2,_) Cons(4-9,_) Cons(3,Cons(_,_))"}, {listWorld, list, "_", "_", ""}, {listWorld, list, "_", "a", ""}, {listWorld, list, "_", "Nil", "Cons(_,_)"}, {listWorld, list, "_", "Cons(_,_)", "Nil"}, {listWorld, list, "Nil", "Cons(_,_)", "Nil"}, {listWorld, list, "Nil", "Nil", ""}, {listWorld, list, "Cons(_,_)", "Nil", "Cons(_,_)"}, {listWorld, list, "Cons(_,_)", "Cons(_,_)", ""}, {listWorld, list, "Cons(0,Nil)", "_", ""},
		{listWorld, list, "a@Cons(b,_)", "Cons(2-5,_)", "Cons(0-1,_) Cons(6-9,_)"}, {listWorld, list, "_", "(Nil|Cons(_,_))", ""}, {listWorld, list, "_", "(Nil|Cons((0-4|5-9),_))", ""}, {listWorld, list, "_", "(Nil|Cons((0-4|6-9),_))", "Cons(5,_)"}, {listWorld, list, "(Nil|_)", "Cons(_,Nil)", "Nil Cons(_,Cons(_,_))"}, {listWorld, list, "_", "Cons(_,Cons(_,Nil))", "Nil Cons(_,Nil) Cons(_,Cons(_,Cons(_,_)))"},
		// Kids that have nothing in common, in front of others and behind them.
		{listWorld, list, "Cons(0-4,Nil)", "Cons(2-3,Cons(_,_))", "Cons(0-1,Nil) Cons(4,Nil) Cons(2-3,Nil)"}, {listWorld, list, "Cons(0-4,Nil)", "Cons(5-9,Nil)", "Cons(0-4,Nil)"}, {listWorld, list, "Cons(0-4,_)", "Cons(5-9,Nil)", "Cons(0-4,_)"}, {listWorld, list, "Cons(1,Cons(2,_))", "Cons(_,Cons(3,Nil))", "Cons(1,Cons(2,_))"}, {listWorld, list, "Cons(1-3,Cons(2-5,Nil))", "Cons(2,Cons(4,_))", "Cons(1,Cons(2-5,Nil)) Cons(3,Cons(2-5,Nil)) Cons(2,Cons(2-3,Nil)) Cons(2,Cons(5,Nil))"},
		{cubeWorld, list, "_", "Tri(1,2,3)", "Tri(0,_,_) Tri(2-9,_,_) Tri(1,0-1,_) Tri(1,3-9,_) Tri(1,2,0-2) Tri(1,2,4-9) End"}, {cubeWorld, list, "Tri(0-5,3,7)", "Tri(2-9,4,7)", "Tri(0-1,3,7) Tri(2-5,3,7)"}, {cubeWorld, list, "Tri(0-5,3-6,7)", "Tri(2-9,4,8)", "Tri(0-1,3-6,7) Tri(2-5,3,7) Tri(2-5,5-6,7) Tri(2-5,4,7)"}, {cubeWorld, list, "Tri(_,_,1)", "(Tri(0-4,_,_)|Tri(_,0-4,_))", "Tri(5-9,5-9,1)"},
		// Constructors without values.
		{neverWorld, even, "_", "Tru", "Fls"}, {neverWorld, even, "_", "May(_)", "Tru Fls"}, {neverWorld, even, "_", "May(Never(_))", "Tru Fls"}, {neverWorld, even, "May(_)", "Tru", ""}, {neverWorld, even, "May(_)", "May(Never(_))", ""}, {neverWorld, even, "_", "(Tru|Fls)", ""}, {neverWorld, even, "(May(_)|_)", "Tru", "Fls"}, {neverWorld, even, "(Tru|May(_))", "Fls", "Tru"}, {neverWorld, impl.Type{Data: 1}, "_", "Never(_)", ""}, {neverWorld, impl.Type{Data: 1}, "Never(_)", "Never(Never(_))", ""},
		{"L=Nil|Cons(N,L);N=Never(N)", list, "_", "Nil", ""}, {"A=Aa(B)|Ab;B=Mk(A,N)|Ok;N=Never(N)", list, "_", "Aa(Ok)", "Ab"}, {"A=Aa(B)|Ab;B=Mk(A,N)|Ok;N=Never(N)", list, "_", "(Aa(Ok)|Ab)", ""},
		// Only the constructors of the index, also in parts.
		{exprWorld, e(0), "_", "Num(_)", "Bol(_) Add(_,_) If(_,_,_)"}, {exprWorld, e(1), "_", "Num(_)", "Add(_,_) If(_,_,_)"}, {exprWorld, e(2), "_", "Bol(Tru)", "Bol(Fls) If(_,_,_)"}, {exprWorld, e(3), "If(_,_,_)", "If(Bol(Tru),_,_)", ""},
		{exprWorld, e(1), "_", "If(Bol(Tru),Num(3),_)", "Num(_) Add(_,_) If(Bol(Fls),_,_) If(If(_,_,_),_,_) If(Bol(Tru),Num(0-2),_) If(Bol(Tru),Num(4-9),_) If(Bol(Tru),Add(_,_),_) If(Bol(Tru),If(_,_,_),_)"}, {exprWorld, e(0), "If(_,_,_)", "If(_,Num(_),(Bol(_)|Num(_)))", "If(_,Bol(_),_) If(_,Add(_,_),_) If(_,If(_,_,_),_) If(_,Num(_),Add(_,_)) If(_,Num(_),If(_,_,_))"},
	}, impl.MinusPatterns, rules.minusOf)
}

func TestMeetPatterns(t *testing.T) {
	var list impl.Type
	e := func(i int) impl.Type { return impl.Type{Index: i} }
	checkPairs(t, "MeetPatterns", []pairCase{
		{"", intType, "_", "_", "_"}, {"", intType, "a", "3", "3"}, {"", intType, "0-9", "_", "0-9"}, {"", intType, "2-5", "4-7", "4-5"}, {"", intType, "4-7", "2-5", "4-5"}, {"", intType, "2-5", "3-4", "3-4"}, {"", intType, "2-5", "5-9", "5"}, {"", intType, "2-5", "6-9", ""}, {"", intType, "2-5", "0-1", ""}, {"", intType, "3", "4", ""},
		{"", intType, "(0-4|5-9)", "3-6", "3-4 5-6"}, {"", intType, "(0-4|3-9)", "2-5", "2-4 5"}, {"", intType, "(1|2)", "(2|1)", "1 2"}, {"", intType, "(2|1)", "(1|2)", "2 1"}, {"", intType, "(1|2)", "_", "1 2"}, {"", intType, "_", "(3|_)", "3 0-2 4-9"}, {"", intType, "(1-2|6-7)", "(2-3|5-6)", "2 6"}, {"", intType, "c@(1|2)", "(a@2|a@3)", "2"},
		{listWorld, list, "_", "_", "_"}, {listWorld, list, "_", "Nil", "Nil"}, {listWorld, list, "Cons(_,_)", "_", "Cons(_,_)"}, {listWorld, list, "Nil", "Cons(_,_)", ""}, {listWorld, list, "(Nil|Cons(2-5,_))", "a@Cons(4-9,Nil)", "Cons(4-5,Nil)"}, {listWorld, list, "Cons(_,Nil)", "Cons(3,_)", "Cons(3,Nil)"}, {listWorld, list, "Cons(_,a)", "Cons(b,Cons(_,_))", "Cons(_,Cons(_,_))"}, {listWorld, list, "_", "(Nil|_)", "Nil Cons(_,_)"}, {listWorld, list, "Cons(1,Nil)", "Cons(1,Cons(_,_))", ""}, {listWorld, list, "Cons(1,_)", "Cons(2,_)", ""},
		{cubeWorld, list, "Tri(0-5,_,2)", "Tri(_,3,2-7)", "Tri(0-5,3,2)"}, {cubeWorld, list, "Tri(0-5,_,2)", "Tri(_,3,3-7)", ""}, {cubeWorld, list, "Tri(0-5,_,2)", "Tri(6-9,_,2)", ""}, {cubeWorld, list, "Tri((0-5|3-7),_,_)", "Tri(_,(1-4|4-8),_)", "Tri(0-5,1-4,_) Tri(0-5,5-8,_) Tri(6-7,1-4,_) Tri(6-7,5-8,_)"}, {cubeWorld, list, "(Tri(1,_,_)|End)", "(End|Tri(_,1,_))", "Tri(1,1,_) End"},
		{neverWorld, list, "_", "(May(_)|Tru)", "Tru"}, {neverWorld, list, "(May(_)|_)", "_", "Tru Fls"}, {neverWorld, list, "_", "May(Never(_))", ""}, {neverWorld, list, "(Fls|Tru)", "(Tru|(May(_)|Fls))", "Fls Tru"}, {neverWorld, impl.Type{Data: 1}, "_", "_", ""}, {neverWorld, impl.Type{Data: 1}, "Never(_)", "_", ""},
		{exprWorld, e(1), "(Num(3)|_)", "(If(_,_,_)|Num(2-5))", "Num(3) If(_,_,_) Num(2) Num(4-5)"}, {exprWorld, e(3), "If(_,_,_)", "_", ""}, {exprWorld, e(2), "If(Bol(Tru),_,_)", "If((Bol(_)|_),Bol(Fls),_)", "If(Bol(Tru),Bol(Fls),_)"},
	}, impl.MeetPatterns, rules.meetOf)
}

func TestWithinPattern(t *testing.T) {
	var list impl.Type
	for _, c := range []struct {
		world string
		t     impl.Type
		a, b  string
		want  bool
	}{
		{"", intType, "_", "_", true}, {"", intType, "3", "2-5", true}, {"", intType, "2-5", "3", false}, {"", intType, "_", "0-9", true}, {"", intType, "_", "(0-4|5-9)", true}, {"", intType, "_", "(0-4|6-9)", false}, {"", intType, "a", "b", true}, {"", intType, "_", "1-9", false}, {"", intType, "(3|7)", "(7|3)", true},
		{listWorld, list, "_", "(Nil|Cons((0-4|5-9),_))", true}, {listWorld, list, "_", "(Nil|Cons((0-4|5-9),Nil))", false}, {listWorld, list, "Nil", "_", true}, {listWorld, list, "Nil", "Cons(_,_)", false}, {listWorld, list, "a@Cons(b,Nil)", "Cons(a,_)", true}, {listWorld, list, "Cons(_,Cons(_,_))", "Cons(_,Cons(_,Nil))", false}, {listWorld, list, "(Nil|_)", "(Cons(_,_)|Nil)", true},
		{neverWorld, list, "_", "(Tru|Fls)", true}, {neverWorld, list, "May(_)", "Tru", true}, {neverWorld, list, "_", "(Fls|May(_))", false}, {neverWorld, impl.Type{Data: 1}, "_", "Never(_)", true}, {neverWorld, impl.Type{Data: 1}, "Never(_)", "Never(Never(Never(_)))", true}, {exprWorld, impl.Type{Index: 3}, "_", "If(Bol(Tru),_,_)", true}, {exprWorld, impl.Type{Index: 1}, "_", "(Num(_)|(Add(_,_)|If(_,_,_)))", true}, {exprWorld, impl.Type{}, "_", "(Num(_)|(Add(_,_)|If(_,_,_)))", false},
	} {
		w, _ := impl.ParseWorld(c.world)
		if in, ok := impl.WithinPattern(w, c.t, mustPattern(t, w, c.t, c.a), mustPattern(t, w, c.t, c.b)); in != c.want || !ok {
			t.Errorf("WithinPattern(%q, %v, %s, %s) = %v, %v", c.world, c.t, c.a, c.b, in, ok)
		}
	}
}

func TestPartsAtTheLimit(t *testing.T) {
	w := mustWorld(t, cubeWorld)
	same := func(count int) string { return spread(slices.Repeat([]string{"_"}, count)) }
	for text, want := range map[string]int{
		cube(8, 5, 1): 40, cube(4, 1, 10): 40, "(" + cube(3, 1, 13-3) + "|" + cube(1, 1, 10) + ")": 40, "(" + cube(3, 3, 4) + "|" + cube(1, 5, 1) + ")": 41, "(" + cube(8, 5, 1) + "|End)": 41, "a@(End|" + cube(8, 5, 1) + ")": 41, cube(7, 6, 1): 42, cube(10, 10, 4): 400, cube(10, 10, 5): 500,
		// Parts that are equal count, too.
		"Tri(" + same(8) + "," + same(5) + ",_)": 40, "(Tri(" + same(8) + "," + same(5) + ",_)|_)": 41, "(_|Tri(" + same(8) + ",_," + same(5) + "))": 41, "Tri(" + same(10) + "," + same(10) + "," + same(6) + ")": 600,
	} {
		p := mustPattern(t, w, impl.Type{}, text)
		if want > 40 {
			for _, other := range []string{"_", "End", "Tri(0,0,0)"} {
				checkNoResult(t, "too many parts", w, impl.Type{}, p, mustPattern(t, w, impl.Type{}, other))
				checkNoResult(t, "too many parts", w, impl.Type{}, mustPattern(t, w, impl.Type{}, other), p)
			}
			continue
		}
		for _, other := range []impl.Pattern{anyPat(), ctorPat(1)} {
			for _, pair := range [][2]impl.Pattern{{p, other}, {other, p}} {
				list, ok := impl.MinusPatterns(w, impl.Type{}, pair[0], pair[1])
				if wanted, _ := rulesOf(w).minusOf(impl.Type{}, pair[0], pair[1]); !ok || !slices.EqualFunc(list, wanted, equalPatterns) {
					t.Errorf("MinusPatterns of %d parts = %s, %v", want, listText(w, impl.Type{}, list), ok)
				}
				list, ok = impl.MeetPatterns(w, impl.Type{}, pair[0], pair[1])
				if wanted, _ := rulesOf(w).meetOf(impl.Type{}, pair[0], pair[1]); !ok || !slices.EqualFunc(list, wanted, equalPatterns) {
					t.Errorf("MeetPatterns of %d parts = %s, %v", want, listText(w, impl.Type{}, list), ok)
				}
			}
		}
	}
	never := mustWorld(t, "A=Aa(N,I,I)|Ab;N=Never(N)")
	for count, ok := range map[int]bool{8: true, 9: false} {
		// Parts that no value matches count, too.
		digits := strings.Split("0123456789", "")
		p := mustPattern(t, never, impl.Type{}, "Aa(_,"+spread(digits[:count])+","+spread(digits[:5])+")")
		if list, got := impl.MinusPatterns(never, impl.Type{}, anyPat(), p); got != ok || ok != (len(list) == 1) {
			t.Errorf("MinusPatterns of %d parts = %v, %v", 5*count, list, got)
		}
	}
}

func TestResultsAtTheLimit(t *testing.T) {
	w := mustWorld(t, boxWorld)
	digits := strings.Split("0123456789", "")
	forty := "Tri(" + spread(digits[:8]) + "," + spread(digits[:5]) + ",_)"
	tens := []string{"Tri(_,_,Duo(1,1))", "Tri(_,_,Duo(3,1))", "Tri(_,_,Duo(9,1))"}
	overlaps := "(Tri(" + spread(strings.Fields("1 3 5")) + "," + spread(strings.Fields("2 4 6")) + ",Duo(" + spread(strings.Fields("1 3")) + "," + spread(strings.Fields("5 7")) + "))|_)"
	for _, c := range []struct {
		a, b string
		want int
	}{
		{forty, spread(tens[:1]), 200}, {forty, spread(tens[:2]), 320}, {forty, spread(tens), 400}, {forty, spread(append(slices.Clone(tens), "Tri(0,0,Duo(2,9))")), 400},
		{forty, spread(append(slices.Clone(tens), "Tri(0,0,Duo(2,5))")), -1}, {forty, spread(append([]string{"Tri(0,0,Duo(2,5))"}, tens...)), -1}, {forty, spread(append([]string{"Tri(7,4,_)"}, append(slices.Clone(tens), "Tri(0,0,Duo(2,5))")...)), 391},
		// There are too many after one step only.
		{forty, spread(append(slices.Clone(tens), "Tri(0,0,Duo(2,5))", "_")), -1}, {forty, spread(append([]string{"_"}, append(slices.Clone(tens), "Tri(0,0,Duo(2,5))")...)), 0}, {overlaps, "End", 142},
	} {
		a, b := mustPattern(t, w, impl.Type{}, c.a), mustPattern(t, w, impl.Type{}, c.b)
		list, ok := impl.MinusPatterns(w, impl.Type{}, a, b)
		wanted, has := rulesOf(w).minusOf(impl.Type{}, a, b)
		if ok != (c.want >= 0) || has != ok || len(list) != max(0, c.want) || !slices.EqualFunc(list, wanted, equalPatterns) || sharePatterns(append(list, a, b)) {
			t.Errorf("MinusPatterns(%s, %s): %d, %v, by definition %d, %v, not %d", c.a, c.b, len(list), ok, len(wanted), has, c.want)
		}
		if in, within := impl.WithinPattern(w, impl.Type{}, a, b); within != ok || in != (c.want == 0) {
			t.Errorf("WithinPattern(%s, %s) = %v, %v", c.a, c.b, in, within)
		}
	}
	for text, want := range map[string]int{
		"Tri(_,_,Duo(" + spread(digits) + ",_))": 400, "(Tri(_,_,Ont)|Tri(_,_,Duo(" + spread(digits[1:]) + ",_)))": 400, "(Tri(_,_,Ont)|Tri(_,_,Duo(" + spread(digits) + ",_)))": -1, "Tri(_,_,Duo(" + spread(digits[:9]) + ",_))": 360, "(Tri(0,0,Ont)|Tri(_,_,Duo(" + spread(digits) + ",_)))": -1,
	} {
		a, b := mustPattern(t, w, impl.Type{}, forty), mustPattern(t, w, impl.Type{}, text)
		list, ok := impl.MeetPatterns(w, impl.Type{}, a, b)
		wanted, has := rulesOf(w).meetOf(impl.Type{}, a, b)
		if ok != (want >= 0) || has != ok || len(list) != max(0, want) || !slices.EqualFunc(list, wanted, equalPatterns) || sharePatterns(append(list, a, b)) {
			t.Errorf("MeetPatterns(%s, %s): %d, %v, by definition %d, %v, not %d", forty, text, len(list), ok, len(wanted), has, want)
		}
	}
}

func TestResultsThatAreTooLarge(t *testing.T) {
	list := mustWorld(t, listWorld)
	for depth := 1; depth <= 10; depth++ {
		p := mustPattern(t, list, impl.Type{}, nested(depth))
		// In place of the last Nil, there is a Cons with Kids.
		left, ok := impl.MinusPatterns(list, impl.Type{}, anyPat(), p)
		if ok != (depth < 10) || ok != (len(left) > 0) {
			t.Errorf("MinusPatterns(_, %s) = %s, %v", nested(depth), listText(list, impl.Type{}, left), ok)
		}
		if both, ok := impl.MeetPatterns(list, impl.Type{}, anyPat(), p); !ok || len(both) != 1 {
			t.Errorf("MeetPatterns(_, %s) = %v, %v", nested(depth), both, ok)
		}
	}
	// No value matches what would be too deep.
	never := mustWorld(t, "S=Suc(S)|Big(B);B=Tru|May(N);N=Never(N)")
	deep := strings.Repeat("Suc(", 8) + "Big(Tru)" + strings.Repeat(")", 8)
	if left, ok := impl.MinusPatterns(never, impl.Type{}, anyPat(), mustPattern(t, never, impl.Type{}, deep)); !ok || len(left) != 9 {
		t.Errorf("MinusPatterns(_, %s) = %s, %v", deep, listText(never, impl.Type{}, left), ok)
	}
	tri := mustWorld(t, "T=Tri(T,T,T)|End|Two(T,T)|One(T)")
	forty := "Tri(Tri(Tri(End,End,End),Tri(End,End,End),Tri(End,End,End)),Tri(Tri(End,End,End),Tri(End,End,End),Tri(End,End,End)),Tri(Tri(End,End,End),Tri(End,End,End),Tri(End,End,End)))"
	for second, want := range map[string]bool{"Tri(Tri(End,End,End),Tri(End,End,End),Tri(End,End,_))": true, "Tri(Tri(End,End,End),Tri(End,End,End),Tri(End,End,One(_)))": true, "Tri(Tri(End,End,End),Tri(End,End,End),Tri(End,Two(End,End),Two(_,End)))": true, "Tri(Tri(End,End,End),Tri(Tri(_,_,_),End,End),Tri(One(End),One(End),End))": true, "Tri(Tri(End,End,End),Tri(Tri(_,_,_),End,One(End)),Tri(One(End),One(End),End))": false} {
		a, b := "Tri("+forty+",_,_)", "Tri(_,"+second+",End)"
		p, q := mustPattern(t, tri, impl.Type{}, a), mustPattern(t, tri, impl.Type{}, b)
		both, ok := impl.MeetPatterns(tri, impl.Type{}, p, q)
		if ok != want || ok != (len(both) == 1) {
			t.Errorf("MeetPatterns(%s, %s): %d, %v", a, b, len(both), ok)
		}
		wanted, has := rulesOf(tri).minusOf(impl.Type{}, p, q)
		if left, ok := impl.MinusPatterns(tri, impl.Type{}, p, q); ok != has || !slices.EqualFunc(left, wanted, equalPatterns) {
			t.Errorf("MinusPatterns(%s, %s): %d, %v", a, b, len(left), ok)
		}
	}
}

func TestSamplePattern(t *testing.T) {
	var list impl.Type
	e := func(i int) impl.Type { return impl.Type{Index: i} }
	for _, c := range []struct {
		world string
		t     impl.Type
		text  string
		want  string // empty if there is none
	}{
		{"", intType, "_", "0"}, {"", intType, "a", "0"}, {"", intType, "3-5", "3"}, {"", intType, "9", "9"}, {"", intType, "(7|2)", "7"}, {"", intType, "b@(4-6|_)", "4"}, {"", intType, "(_|2)", "0"},
		{listWorld, list, "_", "Nil"}, {listWorld, list, "f", "Nil"}, {listWorld, list, "Cons(_,_)", "Cons(0,Nil)"}, {listWorld, list, "Cons((7|8),Cons(a,_))", "Cons(7,Cons(0,Nil))"}, {listWorld, list, "(Cons(4-6,_)|Nil)", "Cons(4,Nil)"}, {listWorld, list, "a@(b@Cons(_,c@Nil)|b@c)", "Cons(0,Nil)"}, {listWorld, list, nested(10), nested(10)},
		{neverWorld, list, "_", "Tru"}, {neverWorld, list, "Fls", "Fls"}, {neverWorld, list, "(May(_)|Fls)", "Fls"}, {neverWorld, list, "(Fls|May(_))", "Fls"}, {neverWorld, list, "(May(Never(_))|(May(_)|Tru))", "Tru"}, {neverWorld, list, "((May(_)|Fls)|Tru)", "Fls"}, {neverWorld, list, "May(_)", ""}, {neverWorld, list, "(May(_)|May(Never(_)))", ""}, {neverWorld, impl.Type{Data: 1}, "_", ""},
		{"P=Pair(O,O);O=May(N)|Som(I);N=Never(N)", list, "Pair((May(_)|Som(3-4)),(Som(1)|May(_)))", "Pair(Som(3),Som(1))"}, {"P=Pair(O,O);O=May(N)|Som(I);N=Never(N)", list, "(Pair(_,May(_))|Pair(_,Som(5)))", "Pair(Som(0),Som(5))"},
		{exprWorld, e(2), "If(_,_,_)", "If(Bol(Tru),Bol(Tru),Bol(Tru))"}, {exprWorld, e(1), "If(_,_,_)", "If(Bol(Tru),Num(0),Num(0))"}, {exprWorld, e(0), "If(_,Bol(Fls),_)", "If(Bol(Tru),Bol(Fls),Num(0))"}, {exprWorld, e(3), "_", ""}, {exprWorld, e(3), "If(_,_,_)", ""},
		// The least depth of a type is too great, also in a part that is not chosen.
		{chainWorld, e(0), "_", ""}, {chainWorld, e(3), "a", ""}, {chainWorld, e(1), "Dx(_)", ""}, {chainWorld, e(0), "a@Dx(Cz(_))", ""}, {chainWorld, impl.Type{Data: 1, Index: 2}, "_", "Cy(Cx(Bz(By(Bx(Az(Ay(Ax(0))))))))"}, {chainWorld, impl.Type{Data: 1, Index: 3}, "_", "Cz(Cy(Cx(Bz(By(Bx(Az(Ay(Ax(0)))))))))"},
		{deepWorld, list, "_", "Lo"}, {deepWorld, list, "Hi(_)", ""}, {deepWorld, list, "(Lo|Hi(_))", ""}, {deepWorld, list, "(_|Hi(_))", ""}, {deepWorld, list, "Up(_)", ""}, {deepWorld, list, "(Lo|Up(_))", "Lo"}, {deepWorld, list, "(Lo|Hi(Up(_)))", "Lo"}, {deepWorld, list, "Hi(Up(_))", ""}, {deepWorld, list, "(Lo|(_|Hi(Up(Cz(_)))))", "Lo"}, {deepWorld, list, "(a@Lo|a@Hi(_))", ""},
		// PatAny for a type without values is not too deep.
		{"A=Aa(B)|Ab;B=Mk(A,N);N=Never(N)", list, "(Aa(_)|Ab)", "Ab"},
		// A value that is too deep, or has too many nodes.
		{listWorld, list, strings.Replace(nested(10), "Nil", "_", 1), nested(10)}, {listWorld, list, strings.Repeat("Cons(_,", 9) + "_" + strings.Repeat(")", 9), nested(10)}, {exprWorld, e(1), strings.Repeat("Add(", 8) + "_" + strings.Repeat(",_)", 8), strings.Repeat("Add(", 8) + "Num(0)" + strings.Repeat(",Num(0))", 8)}, {exprWorld, e(1), strings.Repeat("Add(", 9) + "_" + strings.Repeat(",_)", 9), ""},
		{sizeWorld, impl.Type{Data: 2}, "_", mkText}, {sizeWorld, impl.Type{Data: 3}, "_", ""}, {sizeWorld, impl.Type{Data: 3}, "Mn(_,_,_)", ""}, {sizeWorld, impl.Type{Data: 2}, "Mk(a,b,Six(3,_))", strings.Replace(mkText, "Six(0", "Six(3", 1)}, {"T=Ta(I,I,I)|Tb(T,T,T)", list, "Tb(Tb(_,_,_),Tb(_,_,_),Tb(_,_,_))", "Tb(" + threeText + "," + threeText + "," + threeText + ")"}, {"T=Ta(I,I,I)|Tb(T,T,T)", list, "Tb(Tb(_,_,_),Tb(_,_,_),Tb(Tb(_,_,_),Tb(_,_,_),Tb(_,_,_)))", ""},
	} {
		w, _ := impl.ParseWorld(c.world)
		p := mustPattern(t, w, c.t, c.text)
		v, ok := impl.SamplePattern(w, c.t, p)
		if got := impl.FormatValue(w, c.t, v); ok != (c.want != "") || ok && got != c.want || !ok && !isZero(v) || shareMemory([]impl.Value{v}) {
			t.Errorf("SamplePattern(%q, %v, %s) = %v, %v, not %s", c.world, c.t, c.text, v, ok, c.want)
		}
	}
}

const (
	// deepWorld has a type whose least depth is 1, and 11 for the index 2.
	deepWorld = "A=Lo:1|Hi(A2)|Up(C3):2;C=Cz(C2):3|Cy(C1):2|Cx(B3):1;B=Bz(B2):3|By(B1):2|Bx(D3):1;D=Dz(D2):3|Dy(D1):2|Dx(I):1"
	threeText = "Tb(Ta(0,0,0),Ta(0,0,0),Ta(0,0,0))"
	mkText    = "Mk(Tc(" + threeText + "," + threeText + "," + threeText + ")," + threeText + ",Six(0,Ta(0,0,0)))"
)

func TestBarePattern(t *testing.T) {
	any0, nil0 := anyPat(), ctorPat(0)
	strange := impl.Pattern{Op: -5, Ctor: 4, N: 3, M: -2, Var: 7, Kids: []impl.Pattern{varPat(9), asPat(8, nil0)}}
	bare := strange
	bare.Kids = []impl.Pattern{any0, nil0}
	for _, c := range []struct{ p, want impl.Pattern }{
		{any0, any0}, {varPat(3), any0}, {intPat(2, 5), intPat(2, 5)}, {nil0, nil0}, {asPat(0, nil0), nil0}, {asPat(0, varPat(1)), any0}, {asPat(2, asPat(1, asPat(0, intPat(3, 3)))), intPat(3, 3)},
		{asPat(0, ctorPat(1, varPat(1), any0)), ctorPat(1, any0, any0)}, {ctorPat(1, asPat(0, varPat(1)), orPat(varPat(2), asPat(2, nil0))), ctorPat(1, any0, orPat(any0, nil0))}, {orPat(asPat(0, nil0), asPat(0, ctorPat(1, varPat(1), any0))), orPat(nil0, ctorPat(1, any0, any0))},
		// Patterns that are not valid.
		{impl.Pattern{}, impl.Pattern{}}, {strange, bare}, {varPat(-4), any0}, {impl.Pattern{Op: impl.PatVar, Ctor: 1, N: 2, M: 3, Var: 4, Kids: []impl.Pattern{nil0}}, any0}, {impl.Pattern{Op: impl.PatAny, Var: 4, Kids: []impl.Pattern{varPat(0)}}, impl.Pattern{Op: impl.PatAny, Var: 4, Kids: []impl.Pattern{any0}}}, {intPat(9, -9), intPat(9, -9)},
		{asPat(3), asPat(3)}, {asPat(99, asPat(3)), asPat(3)}, {ctorPat(1, asPat(3), varPat(3)), ctorPat(1, asPat(3), any0)}, {impl.Pattern{Op: impl.PatAs, Ctor: 1, N: 2, M: 3, Var: 4}, impl.Pattern{Op: impl.PatAs, Ctor: 1, N: 2, M: 3, Var: 4}}, {asPat(0, nil0, varPat(1)), nil0}, {asPat(0, varPat(1), nil0, nil0), any0}, {asPat(0, asPat(1, intPat(3, 4), any0), nil0), intPat(3, 4)}, {asPat(0, asPat(1), nil0), asPat(1)},
		{orPat(varPat(0)), orPat(any0)}, {orPat(), orPat()}, {orPat(varPat(0), varPat(1), asPat(2, nil0)), orPat(any0, any0, nil0)}, {ctorPat(7, varPat(0), asPat(0, varPat(0))), ctorPat(7, any0, any0)}, {impl.Pattern{Op: math.MaxInt, Kids: []impl.Pattern{{Op: math.MinInt, Kids: []impl.Pattern{varPat(0)}}}}, impl.Pattern{Op: math.MaxInt, Kids: []impl.Pattern{{Op: math.MinInt, Kids: []impl.Pattern{any0}}}}},
	} {
		if got := impl.BarePattern(c.p); !equalPatterns(got, c.want) || sharePatterns([]impl.Pattern{got, c.p}) || !equalPatterns(bareOf(c.p), c.want) {
			t.Errorf("BarePattern(%v) = %v, not %v", c.p, got, c.want)
		}
	}
	// Parts that share memory are apart in the result.
	kids := []impl.Pattern{ctorPat(1, varPat(0), nil0), varPat(1)}
	p := orPat(ctorPat(1, kids...), asPat(2, ctorPat(1, kids...)), ctorPat(0, kids[:1]...))
	want := orPat(ctorPat(1, ctorPat(1, any0, nil0), any0), ctorPat(1, ctorPat(1, any0, nil0), any0), ctorPat(0, ctorPat(1, any0, nil0)))
	if got := impl.BarePattern(p); !equalPatterns(got, want) || sharePatterns([]impl.Pattern{got}) || kids[1].Op != impl.PatVar {
		t.Errorf("BarePattern(%v) = %v", p, got)
	}
}

func TestBareHugePatterns(t *testing.T) {
	const levels = 300000
	chain, bare, names := varPat(0), anyPat(), ctorPat(1, varPat(0))
	for i := range levels {
		chain, bare = ctorPat(1, asPat(i, chain)), ctorPat(1, bare)
		names = asPat(i, names)
	}
	if !impl.PatternSame(impl.BarePattern(chain), bare) || !equalPatterns(impl.BarePattern(names), ctorPat(1, anyPat())) {
		t.Error("deep patterns become other ones")
	}
	// Patterns whose nodes are too many to be visited one by one, or without an end.
	shared, want := asPat(0, varPat(0)), anyPat()
	for range 100 {
		shared, want = orPat(shared, asPat(1, shared)), orPat(want, want)
	}
	if !impl.PatternSame(impl.BarePattern(shared), want) {
		t.Error("a pattern with shared parts becomes another one")
	}
	if got := impl.BarePattern(loop(varPat(0))); !impl.PatternSame(got, loop(anyPat())) || impl.PatternSame(got, loop(varPat(0))) {
		t.Error("a pattern inside of itself becomes another one")
	}
	alone := make([]impl.Pattern, 1)
	alone[0] = impl.Pattern{Op: impl.PatAs, Var: 3, Kids: alone}
	if got := impl.BarePattern(ctorPat(1, alone[0])); !equalPatterns(got, ctorPat(1, asPat(3))) || alone[0].Var != 3 || len(alone[0].Kids) != 1 {
		t.Errorf("a PatAs that is its own operand becomes %v", got)
	}
	w := mustWorld(t, listWorld)
	for _, p := range []impl.Pattern{shared, loop(varPat(0)), ctorPat(1, make([]impl.Pattern, 1000000)...)} {
		checkNoSpace(t, "huge patterns", w, impl.Type{}, p)
	}
}

// checkParts checks that a list has disjoint parts that have values, and that of some values, exactly those match it that are in.
func checkParts(t *testing.T, x rules, ty impl.Type, list []impl.Pattern, values []impl.Value, in func(v impl.Value) bool) int {
	t.Helper()
	for _, p := range list {
		isPart := len(chosen(p, nil)) == 1 && equalPatterns(bareOf(p), p)
		if !isPart || !impl.PatternValid(x.w, ty, p) || x.isVoid(ty, p) {
			t.Fatalf("%q, %v: %v is not a part that has values", impl.FormatWorld(x.w), ty, p)
		}
	}
	inside := 0
	for _, v := range values {
		count, want := 0, 0
		for _, p := range list {
			if matches(p, v, map[int]impl.Value{}) {
				count++
			}
		}
		if in(v) {
			want = 1
			inside++
		}
		if count != want {
			t.Fatalf("%q, %v: the value %v matches %d of %s, not %d", impl.FormatWorld(x.w), ty, v, count, listText(x.w, ty, list), want)
		}
	}
	return inside
}

// randomUsed is a type that, in most cases, has values.
func randomUsed(r *rand.Rand) ([]impl.Data, impl.Type) {
	for {
		w := randomWorld(r)
		if r.IntN(2) == 0 {
			w, _ = impl.ParseWorld([]string{listWorld, exprWorld, optWorld, cubeWorld, neverWorld, boxWorld, "T=Two(T,T)|Thr(N,T,I)|Tip(U*);U=One(U1):1|Six(I):2|Oh|Not(N);N=Never(N)"}[r.IntN(7)])
		}
		ty := randomType(r, w)
		if impl.Inhabited(w, ty) || r.IntN(10) == 0 {
			return w, ty
		}
	}
}

// someValues are values of a type, but not more than about 30.
func someValues(r *rand.Rand, w []impl.Data, ty impl.Type) []impl.Value {
	values, _ := impl.ValuesUpTo(w, ty, 2)
	for len(values) > 20 {
		values = slices.Delete(values, r.IntN(10), 10+r.IntN(len(values)-10))
	}
	for range 10 {
		if v, ok := randomValue(r, w, ty, 3); ok {
			values = append(values, v)
		}
	}
	return values
}

// randomParts is a pattern with so many nodes at most, of which many are PatOr.
func randomParts(r *rand.Rand, w []impl.Data, ty impl.Type, nodes int) impl.Pattern {
	if nodes >= 3 && r.IntN(2) == 0 {
		first := 1 + r.IntN(nodes-2)
		return orPat(randomParts(r, w, ty, first), randomParts(r, w, ty, nodes-1-first))
	}
	if ty == intType {
		n := r.IntN(10)
		return intPat(n, n+r.IntN(10-n))
	}
	for range 5 {
		ctor := r.IntN(len(w[ty.Data].Ctors))
		types, ok := kidTypes(w, ty, ctor)
		if !ok || len(types) >= nodes {
			continue
		}
		p := ctorPat(ctor)
		for _, kid := range types {
			p.Kids = append(p.Kids, randomParts(r, w, kid, max(1, (nodes-1)/len(types))))
		}
		return p
	}
	return anyPat()
}

// randomPair are two patterns for a type, of which the second one is often like the first one.
func randomPair(r *rand.Rand, w []impl.Data, ty impl.Type) (a, b impl.Pattern) {
	vars := []int{0, 1, 2, 3, 4, 5}[r.IntN(6):]
	a = randomPattern(r, w, ty, 1+r.IntN(6), vars)
	b = randomPattern(r, w, ty, 1+r.IntN(6), vars)
	switch r.IntN(6) {
	case 0:
		b = changedPattern(r, a)
	case 1:
		a, b = orPat(bareOf(a), bareOf(b)), orPat(changedPattern(r, bareOf(b)), bareOf(a))
	case 2:
		a, b = anyPat(), randomParts(r, w, ty, 3+r.IntN(30))
	case 3, 4:
		a, b = randomParts(r, w, ty, 3+r.IntN(30)), randomParts(r, w, ty, 3+r.IntN(30))
	}
	return a, b
}

func TestRandomSpaces(t *testing.T) {
	r := rand.New(rand.NewPCG(24, 24))
	nothing, some, inside, outside, failed := 0, 0, 0, 0, 0
	for range 2000 {
		w, ty := randomUsed(r)
		x, values := rulesOf(w), someValues(r, w, ty)
		for range 4 {
			a, b := randomPair(r, w, ty)
			left, both, ok := randomResults(t, x, ty, a, b)
			if !ok {
				failed++
				continue
			}
			if len(left) == 0 {
				nothing++
			}
			if len(left) > 2 {
				some++
			}
			matching := slices.Clone(values)
			for _, p := range []impl.Pattern{a, b, a, b} {
				if v, ok := instance(r, w, ty, p); ok {
					matching = append(matching, v)
				}
			}
			first, second := chosen(a, nil), chosen(b, nil)
			fits := func(list []impl.Pattern, v impl.Value) bool { i, _ := firstMatch(list, v); return i >= 0 }
			outside += checkParts(t, x, ty, left, matching, func(v impl.Value) bool { return fits(first, v) && !fits(second, v) })
			inside += checkParts(t, x, ty, both, matching, func(v impl.Value) bool { return fits(first, v) && fits(second, v) })
		}
	}
	if nothing < 1000 || some < 600 || inside < 10000 || outside < 10000 || failed < 500 {
		t.Errorf("only %d results without parts, %d with more than two, %d values in both, %d in the first only, %d without a result", nothing, some, inside, outside, failed)
	}
}

// randomResults are what is left of a and what it has in common with b, compared with the rules, and whether both are known.
func randomResults(t *testing.T, x rules, ty impl.Type, a, b impl.Pattern) (left, both []impl.Pattern, ok bool) {
	t.Helper()
	if !impl.PatternValid(x.w, ty, a) || !impl.PatternValid(x.w, ty, b) {
		checkNoResult(t, "not valid", x.w, ty, a, b)
		return nil, nil, false
	}
	texts := impl.FormatPattern(x.w, ty, a) + " and " + impl.FormatPattern(x.w, ty, b)
	if impl.EmptyPattern(x.w, ty, a) != x.isVoid(ty, a) || !equalPatterns(impl.BarePattern(a), bareOf(a)) {
		t.Fatalf("%q, %v: EmptyPattern or BarePattern is wrong for the first of %s", impl.FormatWorld(x.w), ty, texts)
	}
	left, isLeft := impl.MinusPatterns(x.w, ty, a, b)
	wanted, has := x.minusOf(ty, a, b)
	in, within := impl.WithinPattern(x.w, ty, a, b)
	if isLeft != has || !slices.EqualFunc(left, wanted, equalPatterns) || sharePatterns(append(left, a)) || sharePatterns(append(left, b)) || within != isLeft || in != (isLeft && len(left) == 0) {
		t.Fatalf("%q, %v: MinusPatterns of %s: %s, %v, not %s, %v", impl.FormatWorld(x.w), ty, texts, listText(x.w, ty, left), isLeft, listText(x.w, ty, wanted), has)
	}
	both, isBoth := impl.MeetPatterns(x.w, ty, a, b)
	wanted, has = x.meetOf(ty, a, b)
	if isBoth != has || !slices.EqualFunc(both, wanted, equalPatterns) || sharePatterns(append(both, a)) || sharePatterns(append(both, b)) {
		t.Fatalf("%q, %v: MeetPatterns of %s: %s, %v, not %s, %v", impl.FormatWorld(x.w), ty, texts, listText(x.w, ty, both), isBoth, listText(x.w, ty, wanted), has)
	}
	return left, both, isLeft && isBoth
}

func TestRandomSamples(t *testing.T) {
	r := rand.New(rand.NewPCG(25, 25))
	found, empty, later := 0, 0, 0
	for range 10000 {
		w, ty := randomUsed(r)
		p := randomPattern(r, w, ty, 1+r.IntN(6), []int{0, 1, 2}[r.IntN(3):])
		if r.IntN(2) == 0 {
			p = orPat(bareOf(p), bareOf(randomPattern(r, w, ty, 4, nil)))
		}
		if !impl.PatternValid(w, ty, p) {
			continue
		}
		v, ok := impl.SamplePattern(w, ty, p)
		// The first of the patterns without alternatives that has values is the one of the sample.
		first, has := firstSample(w, ty, chosen(p, nil))
		if ok && (!impl.ValueValid(w, ty, v) || !fits(p, v) || !has || compared(v, first) != 0) || !ok && (!isZero(v) || has && impl.ValueValid(w, ty, first)) {
			t.Fatalf("%q, %v: SamplePattern(%s) = %v, %v, not %v", impl.FormatWorld(w), ty, impl.FormatPattern(w, ty, p), v, ok, first)
		}
		switch {
		case rulesOf(w).isVoid(ty, p):
			empty++
		case ok:
			found++
		}
		if all := chosen(p, nil); ok && !fits(all[0], v) {
			later++
		}
	}
	if found < 3000 || empty < 300 || later < 100 {
		t.Errorf("only %d samples, %d patterns without values, %d samples of later parts", found, empty, later)
	}
}

// firstSample is the sample of the first pattern without PatOr that some value matches, of any size.
func firstSample(w []impl.Data, ty impl.Type, list []impl.Pattern) (impl.Value, bool) {
	var sample func(ty impl.Type, p impl.Pattern) impl.Value
	sample = func(ty impl.Type, p impl.Pattern) impl.Value {
		switch p.Op {
		case impl.PatInt:
			return number(p.N)
		case impl.PatAs:
			return sample(ty, p.Kids[0])
		case impl.PatCtor:
			v := made(p.Ctor)
			types, _ := kidTypes(w, ty, p.Ctor)
			for i, kid := range types {
				v.Kids = append(v.Kids, sample(kid, p.Kids[i]))
			}
			return v
		}
		v, _ := impl.LeastValue(w, ty)
		return v
	}
	for _, p := range list {
		if !rulesOf(w).isVoid(ty, p) {
			return sample(ty, p), true
		}
	}
	return impl.Value{}, false
}

func TestSpacesLeaveArguments(t *testing.T) {
	w := mustWorld(t, optWorld)
	text := "f@Pair((a@Som(b@(1|2))|a@Som(b)),(Non|Som(_)))"
	p := mustPattern(t, w, impl.Type{}, text)
	spare := append(slices.Clone(p.Kids), varPat(5))
	p.Kids = spare[:1]
	other := mustPattern(t, w, impl.Type{}, "Pair(Som(2-7),_)")
	left, _ := impl.MinusPatterns(w, impl.Type{}, p, other)
	both, _ := impl.MeetPatterns(w, impl.Type{}, p, other)
	impl.WithinPattern(w, impl.Type{}, p, other)
	impl.EmptyPattern(w, impl.Type{}, p)
	v, _ := impl.SamplePattern(w, impl.Type{}, p)
	bare := impl.BarePattern(p)
	// What is written into results is not seen in arguments.
	for _, one := range slices.Concat(left, both, []impl.Pattern{bare}) {
		for i := range one.Kids {
			one.Kids[i].Op = 99
		}
		_ = append(one.Kids, anyPat())
	}
	v.Kids[0].Ctor = 99
	if impl.FormatPattern(w, impl.Type{}, p) != text || spare[1].Var != 5 || impl.FormatPattern(w, impl.Type{}, other) != "Pair(Som(2-7),_)" || impl.FormatWorld(w) != optWorld || len(left) < 2 || len(both) < 2 {
		t.Errorf("arguments are changed: %v, %v; %v, %v", spare, other, left, both)
	}
}
