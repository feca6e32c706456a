package tests

import (
	"math"
	"math/rand/v2"
	"slices"
	"strings"
	"testing"

	"loop.example/matchcompiler/impl"
)

// operandTypes are the types of the Kids of a valid pattern.
func operandTypes(w []impl.Data, t impl.Type, p impl.Pattern) []impl.Type {
	if p.Op == impl.PatCtor {
		types, _ := kidTypes(w, t, p.Ctor)
		return types
	}
	return slices.Repeat([]impl.Type{t}, len(p.Kids))
}

// ctorCount is how many constructors can make values of a type.
func ctorCount(w []impl.Data, t impl.Type) int {
	count := 0
	for c := range w[t.Data].Ctors {
		if _, ok := kidTypes(w, t, c); ok {
			count++
		}
	}
	return count
}

// isBroad reports whether a pattern is a constructor, all of whose Kids are PatAny.
func isBroad(p impl.Pattern) bool {
	return p.Op == impl.PatCtor && !slices.ContainsFunc(p.Kids, func(kid impl.Pattern) bool { return kid.Op != impl.PatAny })
}

// simplest is what becomes of a valid pattern, rule by rule.
func simplest(w []impl.Data, t impl.Type, p impl.Pattern) impl.Pattern {
	types := operandTypes(w, t, p)
	kids := make([]impl.Pattern, len(p.Kids))
	for i, kid := range p.Kids {
		kids[i] = simplest(w, types[i], kid)
	}
	p.Kids = kids
	if p.Op == impl.PatInt && p.N == 0 && p.M == 9 {
		return anyPat()
	}
	if isBroad(p) && ctorCount(w, t) == 1 {
		return anyPat()
	}
	if p.Op == impl.PatAs && kids[0].Op == impl.PatAny {
		return varPat(p.Var)
	}
	if p.Op == impl.PatOr {
		return simplestOr(w, t, kids[0], kids[1])
	}
	return p
}

// simplestOr is what becomes of a PatOr with these parts, which are as simple as they can be.
func simplestOr(w []impl.Data, t impl.Type, a, b impl.Pattern) impl.Pattern {
	if equalPatterns(a, b) || a.Op == impl.PatAny {
		return a
	}
	if a.Op == impl.PatInt && b.Op == impl.PatInt {
		// Without a gap, all numbers between the ends are in one of the ranges.
		n, m := min(a.N, b.N), max(a.M, b.M)
		for i := n; i <= m; i++ {
			if (i < a.N || i > a.M) && (i < b.N || i > b.M) {
				return orPat(a, b)
			}
		}
		return simplest(w, t, intPat(n, m))
	}
	if vars, _ := variables(w, t, a); b.Op == impl.PatAny && len(vars) == 0 {
		return anyPat()
	}
	if isBroad(a) && isBroad(b) && a.Ctor != b.Ctor && ctorCount(w, t) == 2 {
		return anyPat()
	}
	return orPat(a, b)
}

// narrowest is a valid pattern for numbers, narrowed to those from least to most, and whether any is left.
func narrowest(p impl.Pattern, least, most int) (impl.Pattern, bool) {
	switch p.Op {
	case impl.PatVar:
		return asPat(p.Var, intPat(least, most)), least <= most
	case impl.PatAs:
		kid, left := narrowest(p.Kids[0], least, most)
		return asPat(p.Var, kid), left
	case impl.PatInt:
		n, m := max(p.N, least), min(p.M, most)
		return intPat(n, m), n <= m
	case impl.PatOr:
		a, leftA := narrowest(p.Kids[0], least, most)
		b, leftB := narrowest(p.Kids[1], least, most)
		if leftA && leftB {
			return orPat(a, b), true
		}
		if leftA {
			return a, true
		}
		return b, leftB
	}
	return intPat(least, most), least <= most
}

// guardKind is what becomes of a clause by its guard.
type guardKind int

const (
	guardGone    guardKind = iota // The pattern is narrowed, or there is no guard.
	guardNever                    // No number is left.
	guardBetween                  // The variable stands in a part of a PatOr.
	guardLarge                    // The pattern would be too large.
)

// narrowedClause is what becomes of a valid clause without its guard.
func narrowedClause(c impl.Clause) (impl.Clause, guardKind) {
	if c.Guard.Op == impl.GuardNone {
		return c, guardGone
	}
	least, most := 0, c.Guard.N-1
	if c.Guard.Op == impl.GuardEqual {
		least, most = c.Guard.N, c.Guard.N
	}
	kind := guardBetween
	var walk func(p impl.Pattern) impl.Pattern
	walk = func(p impl.Pattern) impl.Pattern {
		if (p.Op == impl.PatVar || p.Op == impl.PatAs) && p.Var == c.Guard.Var {
			narrow, left := narrowest(p, least, most)
			kind = guardNever
			if left {
				kind = guardGone
			}
			return narrow
		}
		p.Kids = slices.Clone(p.Kids)
		for i, kid := range p.Kids {
			if p.Op != impl.PatOr {
				p.Kids[i] = walk(kid)
			}
		}
		return p
	}
	plain := clauseOf(walk(c.Pat))
	if kind == guardGone && (patternSize(plain.Pat) > 60 || patternHeight(plain.Pat) > 10) {
		kind = guardLarge
	}
	return plain, kind
}

// choiceSets are the patterns for the values that choose each of valid clauses without guards, and then for those that choose none.
func (x rules) choiceSets(t impl.Type, list []impl.Clause) ([][]impl.Pattern, bool) {
	var sets [][]impl.Pattern
	for i := range len(list) + 1 {
		p := anyPat()
		if i < len(list) {
			p = list[i].Pat
		}
		set, ok := x.uncoveredOf(t, p, list[:i])
		if !ok {
			return nil, false
		}
		sets = append(sets, set)
	}
	return sets, true
}

// choiceDiffers returns a part whose values choose different clauses in two lists, if there is one, and whether this is known.
func (x rules) choiceDiffers(t impl.Type, a, b []impl.Clause) (part impl.Pattern, differs, known bool) {
	hasGuard := func(c impl.Clause) bool { return c.Guard.Op != 0 }
	if !isClauses(x.w, t, a) || !isClauses(x.w, t, b) || len(a) != len(b) || slices.ContainsFunc(slices.Concat(a, b), hasGuard) {
		return part, false, false
	}
	first, firstOk := x.choiceSets(t, a)
	second, secondOk := x.choiceSets(t, b)
	if !firstOk || !secondOk {
		return part, false, false
	}
	for i, set := range first {
		// With other places than i, these are the values that choose something else in b.
		others := slices.Concat(slices.Concat(second[:i]...), slices.Concat(second[i+1:]...))
		for _, p := range set {
			for _, q := range others {
				if both, has := overlap(p, q); has && !x.isVoid(t, both) {
					return both, true, true
				}
			}
		}
	}
	return part, false, true
}

func isZeroClause(c impl.Clause) bool { return isZeroPattern(c.Pat) && c.Guard == impl.Guard{} }

// checkNotSimple checks that nothing becomes of a pattern that is not valid.
func checkNotSimple(t *testing.T, name string, w []impl.Data, ty impl.Type, p impl.Pattern) {
	t.Helper()
	if s, ok := impl.SimplifyPattern(w, ty, p); ok || !isZeroPattern(s) {
		t.Errorf("%s: SimplifyPattern(%v, Op %d) = %v, %v", name, ty, p.Op, s, ok)
	}
}

// checkNotPlain checks that a clause keeps its guard, and that it is known to fail only if never says so.
func checkNotPlain(t *testing.T, name string, w []impl.Data, ty impl.Type, c impl.Clause, never bool) {
	t.Helper()
	if plain, ok := impl.GuardPattern(w, ty, c); ok || !isZeroClause(plain) {
		t.Errorf("%s: GuardPattern(%v, Op %d, %v) = %v, %v", name, ty, c.Pat.Op, c.Guard, plain, ok)
	}
	if impl.GuardNever(w, ty, c) != never {
		t.Errorf("%s: GuardNever(%v, Op %d, %v) = %v", name, ty, c.Pat.Op, c.Guard, !never)
	}
}

func checkNotSwapped(t *testing.T, name string, w []impl.Data, ty impl.Type, list []impl.Clause, i int) {
	t.Helper()
	if swapped, ok := impl.SwapClauses(w, ty, list, i); ok || len(swapped) != 0 {
		t.Errorf("%s: SwapClauses(%v, %d clauses, %d) = %v, %v", name, ty, len(list), i, swapped, ok)
	}
}

func checkNotClosed(t *testing.T, name string, w []impl.Data, ty impl.Type, list []impl.Clause) {
	t.Helper()
	if closed, ok := impl.ClosedClauses(w, ty, list); ok || len(closed) != 0 {
		t.Errorf("%s: ClosedClauses(%v, %d clauses) = %v, %v", name, ty, len(list), closed, ok)
	}
}

// checkNotCompared checks that it is not known whether two lists choose the same.
func checkNotCompared(t *testing.T, name string, w []impl.Data, ty impl.Type, a, b []impl.Clause) {
	t.Helper()
	for _, pair := range [][2][]impl.Clause{{a, b}, {b, a}} {
		if same, ok := impl.SameChoice(w, ty, pair[0], pair[1]); same || ok {
			t.Errorf("%s: SameChoice(%v, %d and %d clauses) = %v, %v", name, ty, len(pair[0]), len(pair[1]), same, ok)
		}
	}
}

// checkNotRewritten checks that nothing becomes of clauses that are not valid.
func checkNotRewritten(t *testing.T, name string, w []impl.Data, ty impl.Type, list []impl.Clause) {
	t.Helper()
	for _, i := range []int{-1, 0, 1, len(list) - 2, len(list) - 1, len(list), math.MinInt, math.MaxInt} {
		checkNotSwapped(t, name, w, ty, list, i)
	}
	checkNotClosed(t, name, w, ty, list)
	checkNotCompared(t, name, w, ty, list, list)
	checkNotCompared(t, name, w, ty, list, slices.Repeat([]impl.Clause{clauseOf(anyPat())}, len(list)))
}

func TestRewritesOfInvalidTypes(t *testing.T) {
	eachInvalidType(t, func(name string, w []impl.Data, ty impl.Type) {
		for _, p := range []impl.Pattern{anyPat(), varPat(0), intPat(0, 9), ctorPat(0), asPat(0, anyPat()), orPat(anyPat(), anyPat()), {}} {
			checkNotSimple(t, name, w, ty, p)
			checkNotPlain(t, name, w, ty, clauseOf(p), false)
			checkNotPlain(t, name, w, ty, guarded(p, less(0, 3)), false)
			checkNotPlain(t, name, w, ty, guarded(p, less(0, 0)), false)
		}
	})
}

func TestRewritesOfInvalidPatterns(t *testing.T) {
	w := mustWorld(t, listWorld)
	deep := mustPattern(t, w, impl.Type{}, nested(10))
	shared := varPat(0)
	for range 100 {
		shared = orPat(shared, shared)
	}
	for _, p := range []impl.Pattern{
		{}, {Op: 7}, {Op: -1}, {Op: impl.PatAny, N: 1}, {Op: impl.PatAny, Kids: []impl.Pattern{anyPat()}}, varPat(6), varPat(-1), intPat(0, 9), intPat(3, 4), ctorPat(2), ctorPat(-1), ctorPat(1), ctorPat(1, anyPat()), ctorPat(0, anyPat()), ctorPat(1, anyPat(), anyPat(), anyPat()), ctorPat(1, anyPat(), intPat(0, 9)), ctorPat(1, intPat(0, 10), anyPat()), ctorPat(1, intPat(4, 3), anyPat()), ctorPat(1, ctorPat(0), anyPat()),
		asPat(0), asPat(0, anyPat(), anyPat()), asPat(6, anyPat()), asPat(0, varPat(0)), ctorPat(1, varPat(0), varPat(0)), orPat(), orPat(anyPat()), orPat(anyPat(), anyPat(), anyPat()), orPat(varPat(0), anyPat()), orPat(anyPat(), varPat(0)), orPat(varPat(0), varPat(1)), orPat(ctorPat(1, varPat(0), anyPat()), ctorPat(1, anyPat(), varPat(0))), orPat(ctorPat(0), intPat(3, 3)),
		// What would become of it would be valid.
		ctorPat(1, anyPat(), deep), asPat(0, asPat(0, anyPat())), orPat(anyPat(), ctorPat(7)), orPat(anyPat(), loop(anyPat())), shared, loop(varPat(0)), ctorPat(1, make([]impl.Pattern, 1000000)...),
	} {
		checkNotSimple(t, "lists", w, impl.Type{}, p)
		checkNotPlain(t, "lists", w, impl.Type{}, clauseOf(p), false)
		checkNotPlain(t, "lists", w, impl.Type{}, guarded(p, less(0, 0)), false)
	}
	for _, p := range []impl.Pattern{{}, intPat(-1, 9), intPat(0, 10), intPat(5, 4), ctorPat(0), {Op: impl.PatInt, M: 9, Var: 1}, orPat(intPat(0, 4), intPat(5, 10)), orPat(intPat(3, 3), varPat(0)), loop(intPat(0, 9)), shared} {
		checkNotSimple(t, "numbers", w, intType, p)
		checkNotPlain(t, "numbers", w, intType, guarded(p, equal(0, 3)), false)
	}
	expr := mustWorld(t, exprWorld)
	checkNotSimple(t, "an index that leaves a constructor out", expr, impl.Type{Index: 1}, ctorPat(1, anyPat()))
	checkNotSimple(t, "an index that leaves a constructor out", expr, impl.Type{Index: 3}, orPat(ctorPat(0, anyPat()), ctorPat(3, anyPat(), anyPat(), anyPat())))
}

func TestRewritesOfInvalidClauses(t *testing.T) {
	eachInvalidClauses(t, func(name string, w []impl.Data, ty impl.Type, list []impl.Clause) {
		checkNotRewritten(t, name, w, ty, list)
		for _, c := range list {
			if !impl.ClauseValid(w, ty, c) {
				checkNotPlain(t, name, w, ty, c, false)
			}
		}
	})
	w := mustWorld(t, listWorld)
	head := ctorPat(1, varPat(0), varPat(1))
	for _, g := range []impl.Guard{less(1, 3), less(2, 3), less(0, 10), less(0, -1), equal(0, 10), equal(0, -1), equal(6, 3), less(-1, 3), {Op: 3}, {Op: -1}, {N: 1}, {Var: 1}, {Op: math.MaxInt}, {Op: math.MinInt, N: 3}} {
		checkNotPlain(t, "guards", w, impl.Type{}, guarded(head, g), false)
		checkNotRewritten(t, "guards", w, impl.Type{}, []impl.Clause{guarded(head, g)})
	}
	for _, list := range [][]impl.Clause{slices.Repeat([]impl.Clause{clauseOf(ctorPat(0))}, 9), slices.Repeat([]impl.Clause{clauseOf(anyPat())}, 10000)} {
		checkNotRewritten(t, "too many clauses", w, impl.Type{}, list)
	}
}

// checkSimple checks what becomes of a valid pattern, and returns it.
func checkSimple(t *testing.T, w []impl.Data, ty impl.Type, p impl.Pattern) impl.Pattern {
	t.Helper()
	text := impl.FormatPattern(w, ty, p)
	s, ok := impl.SimplifyPattern(w, ty, p)
	if want := simplest(w, ty, p); !ok || !equalPatterns(s, want) || sharePatterns([]impl.Pattern{s, p}) || impl.FormatPattern(w, ty, p) != text {
		t.Fatalf("%q, %v: SimplifyPattern(%s) = %v, %v, not %v", impl.FormatWorld(w), ty, text, s, ok, want)
	}
	if !impl.PatternValid(w, ty, s) || patternSize(s) > patternSize(p) || patternHeight(s) > patternHeight(p) {
		t.Fatalf("%q, %v: SimplifyPattern(%s) = %v is not valid, or larger", impl.FormatWorld(w), ty, text, s)
	}
	if again, ok := impl.SimplifyPattern(w, ty, s); !ok || !equalPatterns(again, s) {
		t.Fatalf("%q, %v: SimplifyPattern(%s) = %v could be simpler: %v", impl.FormatWorld(w), ty, text, s, again)
	}
	return s
}

// simpleCase has patterns for a type, and what becomes of them; without this, they stay.
type simpleCase struct {
	world string
	t     impl.Type
	texts map[string]string
}

func checkSimples(t *testing.T, cases []simpleCase) {
	t.Helper()
	for _, c := range cases {
		w, _ := impl.ParseWorld(c.world)
		for text, want := range c.texts {
			if want == "" {
				want = text
			}
			s := checkSimple(t, w, c.t, mustPattern(t, w, c.t, text))
			if got := impl.FormatPattern(w, c.t, s); got != want {
				t.Errorf("%q, %v: SimplifyPattern(%s) = %s, not %s", c.world, c.t, text, got, want)
			}
		}
	}
}

func TestSimplifyNumbers(t *testing.T) {
	checkSimples(t, []simpleCase{
		{"", intType, map[string]string{"_": "", "a": "", "f": "", "0": "", "9": "", "0-8": "", "1-9": "", "4-6": "", "0-9": "_", "a@3": "", "a@0-8": "", "a@_": "a", "a@0-9": "a", "a@b": "", "a@b@_": "a@b", "c@b@a@0-9": "c@b@a", "a@b@3": ""}},
		// Ranges that touch, that overlap, and that have a gap.
		{"", intType, map[string]string{"(3|4)": "3-4", "(4|3)": "3-4", "(3|5)": "", "(5|3)": "", "(0|1)": "0-1", "(9|8)": "8-9", "(0|9)": "", "(9|0)": "", "(0-3|4-6)": "0-6", "(4-6|0-3)": "0-6", "(0-3|5-6)": "", "(5-6|0-3)": "", "(2-4|3-7)": "2-7", "(3-7|2-4)": "2-7", "(2-7|3-4)": "2-7", "(3-4|2-7)": "2-7", "(2-5|5-7)": "2-7", "(2-5|2-7)": "2-7", "(4-7|2-7)": "2-7", "(2-5|7)": "", "(7|2-5)": "", "(2-5|6)": "2-6", "(1|2-5)": "1-5", "(0|2-5)": ""}},
		{"", intType, map[string]string{"(0-3|4-9)": "_", "(4-9|0-3)": "_", "(0-8|9)": "_", "(0|1-9)": "_", "(1-9|0)": "_", "(0-6|2-9)": "_", "(0-9|3)": "_", "(3|0-9)": "_", "(0-3|5-9)": "", "(0-7|9)": "", "(0|2-9)": "", "a@(0-3|4-9)": "a", "a@(0-3|4-8)": "a@0-8", "a@(0-3|5-9)": ""}},
		// Parts that are equal, or PatAny.
		{"", intType, map[string]string{"(3|3)": "3", "(2-5|2-5)": "2-5", "(_|_)": "_", "(_|3)": "_", "(3|_)": "_", "(_|(1|3))": "_", "((1|3)|_)": "_", "((3|_)|4)": "_", "((1|3)|(1|3))": "(1|3)", "((1|3)|(3|1))": "", "((1|1)|(1|(1|1)))": "1"}},
		{"", intType, map[string]string{"((1|2)|3)": "1-3", "(1|(2|3))": "1-3", "(1|(3|2))": "1-3", "(2|(3|1))": "", "((1|3)|2)": "", "(2|(1|3))": "", "(3|((1|2)|4))": "(3|(1-2|4))", "(1|(3|(5|7)))": "", "((0|1)|(2|(3|4)))": "0-4", "(((0-1|2-3)|4-5)|((8|9)|(6|7)))": "_", "((1|3)|(2|4))": "", "((1|3)|(0-4|5-9))": "_", "(((1|3)|5)|((1|3)|5))": "((1|3)|5)"}},
		// Both parts bind variables.
		{"", intType, map[string]string{"(a|a)": "a", "(a@3|a@3)": "a@3", "(a@3|a@4)": "", "(a@0-4|a@5-9)": "", "(a|a@3)": "", "(a@3|a)": "", "(a@_|a)": "a", "(a|a@0-9)": "a", "(a@(0-3|4-9)|a@0-9)": "a", "(a@(1|2)|a@1-2)": "a@1-2", "(a@b|b@a)": "", "(a@b@_|a@b)": "a@b", "((a@1|a@2)|(a@1|a@2))": "(a@1|a@2)", "((a|a)|a)": "a", "b@(a|a)": "b@a", "b@(a@1|a@2)": ""}},
	})
}

func TestSimplifyData(t *testing.T) {
	e := func(i int) impl.Type { return impl.Type{Index: i} }
	checkSimples(t, []simpleCase{
		{listWorld, e(0), map[string]string{"_": "", "a": "", "Nil": "", "Cons(_,_)": "", "Cons(0-9,_)": "Cons(_,_)", "Cons((1|2),(Nil|Nil))": "Cons(1-2,Nil)", "a@_": "a", "a@Nil": "", "a@Cons(_,_)": "", "Cons(a@0-9,b@c@(Nil|_))": "Cons(a,b@c)", "Cons(a,Cons((_|1),b))": "Cons(a,Cons(_,b))"}},
		// All constructors, of which there are two.
		{listWorld, e(0), map[string]string{"(Nil|Cons(_,_))": "_", "(Cons(_,_)|Nil)": "_", "(Nil|Cons(0-9,_))": "_", "(Cons((0-4|3-9),(Nil|Cons(_,_)))|Nil)": "_", "a@(Nil|Cons(_,_))": "a", "Cons(_,(Cons(_,_)|Nil))": "Cons(_,_)", "(Nil|Cons(_,Nil))": "", "(Nil|Cons(0-8,_))": "", "(Cons(_,Nil)|Nil)": "", "(Nil|(Cons(_,_)|Nil))": "_", "((Nil|Cons(_,_))|Nil)": "_", "(Nil|Cons(_,(Nil|Cons(_,(Cons(_,_)|Nil)))))": "_"}},
		{listWorld, e(0), map[string]string{"(Nil|Nil)": "Nil", "(Cons(_,_)|Cons(_,_))": "Cons(_,_)", "(Cons(1,_)|Cons(2,_))": "", "(Cons(0-9,_)|Cons(_,_))": "Cons(_,_)", "(Cons(_,_)|Cons(1,_))": "", "((Nil|Cons(1,_))|Cons(_,_))": "", "(_|Nil)": "_", "(Cons(1,Nil)|_)": "_", "((Nil|Cons(1,_))|(Nil|Cons((1|1),_)))": "(Nil|Cons(1,_))"}},
		// A variable that both alternatives bind.
		{listWorld, e(0), map[string]string{"(Cons(a,_)|Cons(a,Nil))": "", "(Cons(a,_)|Cons(a,_))": "Cons(a,_)", "(Cons(a,_)|Cons(a,(Nil|Cons(_,_))))": "Cons(a,_)", "(Cons(a@0-9,(Nil|_))|Cons(a,_))": "Cons(a,_)", "(Cons(a,_)|Cons(_,Cons(a,_)))": "", "(a@Nil|a@Cons(_,_))": "", "(a@_|a@(Nil|Cons(_,_)))": "a", "(a|a@Nil)": "", "(a@(Nil|Cons(_,_))|a@Nil)": "(a|a@Nil)", "(Cons(a@(0-4|5-9),_)|Cons(a@(0-4|6-9),_))": "(Cons(a,_)|Cons(a@(0-4|6-9),_))"}},
		// The index leaves constructors out, also in parts.
		{exprWorld, e(3), map[string]string{"If(_,_,_)": "_", "a@If(_,_,_)": "a", "If((Bol(_)|If(_,_,_)),If(_,_,_),_)": "_", "If(_,a,_)": "", "If(Bol(_),_,_)": "", "If(_,a@If(_,_,_),b)": "If(_,a,b)", "(If(_,_,a)|If(_,_,a))": "If(_,_,a)"}},
		{exprWorld, e(2), map[string]string{"If(_,_,_)": "", "Bol(_)": "", "(Bol(_)|If(_,_,_))": "_", "(If(_,_,_)|Bol((Tru|Fls)))": "_", "(Bol(Tru)|If(_,_,_))": ""}},
		{exprWorld, e(1), map[string]string{"(Num(_)|Add(_,_))": "", "((Num(_)|Add(_,_))|If(_,_,_))": "", "If((Bol(_)|If(_,_,_)),_,_)": "If(_,_,_)", "Num((0-4|5-9))": "Num(_)", "Add((Num(_)|If(_,_,_)),_)": ""}},
		{exprWorld, e(0), map[string]string{"If(_,_,_)": "", "(Bol(_)|If(_,_,_))": "", "If((Bol(_)|If(_,_,_)),_,_)": "If(_,_,_)", "If(_,(Bol(_)|If(_,_,_)),_)": "", "Bol((Fls|Tru))": "Bol(_)"}},
		// Data types with one constructor.
		{optWorld, e(0), map[string]string{"Pair(_,_)": "_", "a@Pair(_,_)": "a", "Pair((Non|Som(_)),(Som(0-9)|Non))": "_", "Pair(a,_)": "", "Pair(Som(_),_)": "", "Pair(Som(0-9),_)": "Pair(Som(_),_)", "(Pair(a,_)|Pair(a,(Som(_)|Non)))": "Pair(a,_)", "(Pair(_,_)|Pair(Non,_))": "_", "(Pair(Non,_)|Pair(_,_))": "_", "(Pair(a,b)|Pair(b,a))": ""}},
		{"U=Unit", e(0), map[string]string{"Unit": "_", "a@Unit": "a", "(Unit|Unit)": "_", "(a@Unit|a)": "a"}}, {"U=Unit:2|Oth:3", e(2), map[string]string{"Unit": "_"}}, {"U=Unit:2|Oth:3", e(0), map[string]string{"Unit": "", "(Oth|Unit)": "_"}}, {"B=Box(B,I)|Lid(I,B)", e(0), map[string]string{"(Box(_,0-9)|Lid((0-4|5-9),_))": "_", "(Box(_,_)|Box(_,_))": "Box(_,_)", "(Lid(_,a)|Lid(0-9,a))": "Lid(_,a)"}},
		// Also without values.
		{neverWorld, e(0), map[string]string{"(Tru|Fls)": "", "((Tru|Fls)|May(_))": "", "May(Never(_))": "May(_)", "May(Never(a))": ""}}, {neverWorld, impl.Type{Data: 1}, map[string]string{"Never(_)": "_", "Never(Never(Never(_)))": "_", "a@Never(_)": "a", "Never(Never(a))": "", "(Never(a)|Never(a@Never(_)))": "Never(a)"}},
	})
}

func TestSimplifyAtTheLimits(t *testing.T) {
	w := mustWorld(t, listWorld)
	for depth := 1; depth <= 10; depth++ {
		p := mustPattern(t, w, impl.Type{}, nested(depth))
		if s := checkSimple(t, w, impl.Type{}, p); !equalPatterns(s, p) {
			t.Errorf("SimplifyPattern(%s) = %v", nested(depth), s)
		}
	}
	// A PatOr at each level, or a PatAs.
	ors := strings.Repeat("(Nil|Cons(0-9,", 4) + "(_|Nil)" + strings.Repeat("))", 4)
	if s := checkSimple(t, w, impl.Type{}, mustPattern(t, w, impl.Type{}, ors)); !equalPatterns(s, anyPat()) {
		t.Errorf("SimplifyPattern(%s) = %v", ors, s)
	}
	if s := checkSimple(t, w, impl.Type{}, mustPattern(t, w, impl.Type{}, "f@e@d@c@b@a@(Nil|Cons(_,_))")); impl.FormatPattern(w, impl.Type{}, s) != "f@e@d@c@b@a" {
		t.Errorf("SimplifyPattern of six variables = %v", s)
	}
	size := mustWorld(t, sizeWorld)
	whole := mustPattern(t, size, impl.Type{Data: 2}, strings.ReplaceAll(mkText, "0", "_"))
	if s := checkSimple(t, size, impl.Type{Data: 2}, whole); patternSize(whole) != 60 || !equalPatterns(s, anyPat()) {
		t.Errorf("SimplifyPattern of %d nodes = %v", patternSize(whole), s)
	}
	// Far more choices than SplitOr returns.
	checkSimples(t, []simpleCase{{cubeWorld, impl.Type{}, map[string]string{cube(10, 10, 5): "Tri(_,_,0-4)", cube(10, 9, 1): "Tri(_,0-8,0)", "a@" + cube(9, 10, 4): "a@Tri(0-8,_,0-3)", "(End|" + cube(8, 8, 10) + ")": "(End|Tri(0-7,0-7,_))", "(" + cube(10, 10, 9) + "|End)": "(Tri(_,_,0-8)|End)", cube(10, 10, 10): "Tri(_,_,_)"}}})
}

// checkPlain checks what becomes of a valid clause by its guard, and returns it.
func checkPlain(t *testing.T, w []impl.Data, ty impl.Type, c impl.Clause) (impl.Clause, guardKind) {
	t.Helper()
	name := impl.FormatClauses(w, ty, []impl.Clause{c})
	want, kind := narrowedClause(c)
	if kind != guardGone {
		checkNotPlain(t, name, w, ty, c, kind == guardNever)
		return c, kind
	}
	plain, ok := impl.GuardPattern(w, ty, c)
	if !ok || !equalClauses([]impl.Clause{plain}, []impl.Clause{want}) || !impl.ClauseValid(w, ty, plain) || impl.GuardNever(w, ty, c) {
		t.Fatalf("%q, %v: GuardPattern(%s) = %v, %v, not %v", impl.FormatWorld(w), ty, name, plain, ok, want)
	}
	if sharePatterns([]impl.Pattern{plain.Pat, c.Pat}) || impl.FormatClauses(w, ty, []impl.Clause{c}) != name {
		t.Fatalf("%q, %v: GuardPattern(%s) shares memory, or changes the clause", impl.FormatWorld(w), ty, name)
	}
	if again, ok := impl.GuardPattern(w, ty, plain); !ok || !equalClauses([]impl.Clause{again}, []impl.Clause{plain}) {
		t.Fatalf("%q, %v: GuardPattern(%v) without a guard = %v, %v", impl.FormatWorld(w), ty, plain, again, ok)
	}
	return plain, kind
}

// guardCase has clauses for a type, and what becomes of them by their guards: "never" if no number is left, and "none" if nothing becomes of them for another reason.
type guardCase struct {
	world string
	t     impl.Type
	texts map[string]string
}

func checkGuards(t *testing.T, cases []guardCase) {
	t.Helper()
	for _, c := range cases {
		w, _ := impl.ParseWorld(c.world)
		for text, want := range c.texts {
			plain, kind := checkPlain(t, w, c.t, mustClauses(t, w, c.t, text)[0])
			got := impl.FormatClauses(w, c.t, []impl.Clause{plain})
			switch kind {
			case guardNever:
				got = "never"
			case guardBetween, guardLarge:
				got = "none"
			}
			if got != want {
				t.Errorf("%q, %v: the clause %s becomes %s, not %s", c.world, c.t, text, got, want)
			}
		}
	}
}

func TestGuardsOfNumbers(t *testing.T) {
	checkGuards(t, []guardCase{
		{"", intType, map[string]string{"a a<3": "a@0-2", "a a<1": "a@0", "a a<9": "a@0-8", "a a<0": "never", "a a=0": "a@0", "a a=5": "a@5", "a a=9": "a@9", "f f<2": "f@0-1", "a@_ a<3": "a@0-2", "a@_ a=3": "a@3", "a@_ a<0": "never", "a@0-9 a<9": "a@0-8"}},
		{"", intType, map[string]string{"a@3 a=3": "a@3", "a@3 a=4": "never", "a@3 a=2": "never", "a@3 a<3": "never", "a@3 a<4": "a@3", "a@0 a<0": "never", "a@0 a<1": "a@0", "a@9 a<9": "never", "a@2-5 a<9": "a@2-5", "a@2-5 a<6": "a@2-5", "a@2-5 a<5": "a@2-4", "a@2-5 a<3": "a@2", "a@2-5 a<2": "never", "a@2-5 a<0": "never", "a@2-5 a=1": "never", "a@2-5 a=2": "a@2", "a@2-5 a=4": "a@4", "a@2-5 a=5": "a@5", "a@2-5 a=6": "never"}},
		// Several variables stand for the number.
		{"", intType, map[string]string{"a@b a<3": "a@b@0-2", "a@b b<3": "a@b@0-2", "b@a a=7": "b@a@7", "a@b@_ a<3": "a@b@0-2", "a@b@2-5 a<4": "a@b@2-3", "a@b@2-5 b<4": "a@b@2-3", "a@b@2-5 b<2": "never", "a@b@c a<2": "a@b@c@0-1", "a@b@c b<2": "a@b@c@0-1", "a@b@c b=0": "a@b@c@0", "a@b b<0": "never"}},
		// The operand has alternatives.
		{"", intType, map[string]string{"a@(1|7) a<5": "a@1", "a@(7|1) a<5": "a@1", "a@(1|7) a<8": "a@(1|7)", "a@(1|7) a<7": "a@1", "a@(1|7) a=7": "a@7", "a@(1|7) a=3": "never", "a@(1|7) a<1": "never", "a@(1|7) a<0": "never", "a@(_|7) a<5": "a@0-4", "a@(_|3) a<5": "a@(0-4|3)", "a@(_|_) a=1": "a@(1|1)", "a@(_|_) a<0": "never", "a@(0-4|3-9) a<4": "a@(0-3|3)", "a@(0-4|3-9) a<3": "a@0-2", "a@(1|1) a=1": "a@(1|1)"}},
		{"", intType, map[string]string{"a@((1|8)|(7|2)) a<5": "a@(1|2)", "a@((8|9)|(7|2)) a<5": "a@2", "a@((8|1)|(7|9)) a<5": "a@1", "a@((8|9)|(7|6)) a<5": "never", "a@(1|(7|(2|8))) a<5": "a@(1|2)", "a@(1|(7|(2|8))) a<8": "a@(1|(7|2))", "a@(((5-9|4)|3-6)|_) a=4": "a@((4|4)|4)", "a@b@(1|7) a<5": "a@b@1", "b@a@(1|7) a<5": "b@a@1"}},
		{"", intType, map[string]string{"a@(b|b) a<3": "a@(b@0-2|b@0-2)", "a@(b@7|b) a<3": "a@b@0-2", "a@(b|b@3) a=5": "a@b@5", "a@(b|b@3) a=3": "a@(b@3|b@3)", "a@(b@7|b@8) a<3": "never", "a@b@(c@1|c@(2|9)) a=2": "a@b@c@2", "a@b@(c@1|c@(2|9)) b<3": "a@b@(c@1|c@2)", "a@(b@(1|8)|b@(9|2)) a<5": "a@(b@1|b@2)", "a@(b@c|c@b@4) a<5": "a@(b@c@0-4|c@b@4)", "a@(b@c|c@b@4) a<4": "a@b@c@0-3"}},
		// The variable stands in a part of a PatOr, where no number is left or not.
		{"", intType, map[string]string{"(a|a) a<3": "none", "(a|a) a<0": "none", "(a@1|a@2) a<3": "none", "(a@1|a@2) a<1": "none", "(a@1|a@2) a=2": "none", "b@(a|a) a=3": "none", "b@(a@1|a@2) a=3": "none", "a@(b|b) b<3": "none", "a@(b@7|b@8) b<3": "none", "a@(b@7|b@8) b<0": "none", "((a|a)|a) a<3": "none", "c@b@((a|a)|a) a<3": "none"}},
		{"", intType, map[string]string{"_": "_", "a": "a", "0-9": "0-9", "a@_": "a@_", "(3|4)": "(3|4)", "(a@1|a@2)": "(a@1|a@2)", "a@(b|b)": "a@(b|b)"}},
	})
}

func TestGuardsOfData(t *testing.T) {
	var first impl.Type
	checkGuards(t, []guardCase{
		{listWorld, first, map[string]string{"Cons(a,_) a<3": "Cons(a@0-2,_)", "Cons(a,_) a<0": "never", "Cons(a@2-5,_) a=4": "Cons(a@4,_)", "Cons(a@2-5,_) a=6": "never", "Cons(a@(1|7),_) a<5": "Cons(a@1,_)", "Cons(a,b) a=0": "Cons(a@0,b)", "c@Cons(a@0-4,b) a<2": "c@Cons(a@0-1,b)", "Cons(a,Cons(b,_)) b=2": "Cons(a,Cons(b@2,_))", "Cons(a,Cons(b,_)) a=2": "Cons(a@2,Cons(b,_))", "Cons(b@3,Cons(c@3,Cons(a@3,_))) a<3": "never", "Cons(0-9,Cons(a,(Nil|_))) a<3": "Cons(0-9,Cons(a@0-2,(Nil|_)))"}},
		// A PatOr beside the part, with a variable of its own, or with that of the guard.
		{listWorld, first, map[string]string{"Cons(a,(Nil|Cons(3,_))) a<3": "Cons(a@0-2,(Nil|Cons(3,_)))", "Cons(a,(Cons(b,_)|Cons(_,Cons(b,_)))) a<3": "Cons(a@0-2,(Cons(b,_)|Cons(_,Cons(b,_))))", "Cons(a,(Cons(b,_)|Cons(_,Cons(b,_)))) b<3": "none", "Cons((1|2),Cons(a,_)) a<3": "Cons((1|2),Cons(a@0-2,_))", "(Cons(a,Nil)|Cons(_,Cons(a,_))) a<3": "none", "(Cons(a,Nil)|Cons(_,Cons(a,_))) a<0": "none", "b@(Cons(a@5,_)|Cons(a@6,Nil)) a<3": "none", "Cons(_,Cons(_,(Cons(a,_)|Cons(a@3,Nil)))) a=1": "none", "Cons((a@1|a@2),_) a<0": "none", "Cons((b@1|b@2),Cons(a,_)) a<0": "never"}},
		{listWorld, first, map[string]string{"_": "_", "Nil": "Nil", "a": "a", "a@Nil": "a@Nil", "Cons(0-9,_)": "Cons(0-9,_)", "(Nil|Cons(_,_))": "(Nil|Cons(_,_))", "(Cons(a,_)|Cons(a,Nil))": "(Cons(a,_)|Cons(a,Nil))"}},
		{exprWorld, impl.Type{Index: 1}, map[string]string{"If(_,Num(a),_) a=3": "If(_,Num(a@3),_)", "Add(Num(a@1-3),Num(b)) b<2": "Add(Num(a@1-3),Num(b@0-1))", "Add(Num(a@1-3),Num(b)) a<2": "Add(Num(a@1),Num(b))", "Add(Num(a@1-3),Num(b)) a<1": "never", "(Num(a)|Add(Num(a),_)) a<1": "none"}},
		// Also where no value matches.
		{"A=Aa(I,N)|Ab(I);N=Never(N)", first, map[string]string{"Aa(a,_) a<3": "Aa(a@0-2,_)", "Aa(a,_) a<0": "never", "Aa(3,_)": "Aa(3,_)"}}, {cubeWorld, first, map[string]string{"Tri(a,b@(1|2),c) b<2": "Tri(a,b@1,c)", "Tri(a,b@(1|2),c) c=9": "Tri(a,b@(1|2),c@9)", "Tri(a,b@(1|2),c) b=3": "never"}},
	})
}

func TestGuardsAtTheLimits(t *testing.T) {
	for depth := 1; depth <= 9; depth++ {
		want := "none"
		head := func(a string) string {
			return strings.Repeat("Cons(_,", depth-1) + "Cons(" + a + ",_)" + strings.Repeat(")", depth-1)
		}
		if depth < 9 {
			want = head("a@0-2")
			checkGuards(t, []guardCase{{listWorld, impl.Type{}, map[string]string{head("a@_") + " a<3": want, head("a@2-5") + " a<3": head("a@2"), head("a@b") + " a<0": "never"}}})
		}
		// At the depth 10, there is no place below the variable, but it is known that the guard never holds.
		checkGuards(t, []guardCase{{listWorld, impl.Type{}, map[string]string{head("a") + " a<3": want, head("a") + " a<0": "never", head("a"): head("a")}}})
	}
	mk := func(s string) string { return strings.Replace(mkText, "Six(0,Ta(0,0,0))", s, 1) }
	small := func(s string) string { return strings.Replace(mk(s), "Ta(0,0,0)", "_", 1) }
	checkGuards(t, []guardCase{{sizeWorld, impl.Type{Data: 2}, map[string]string{
		mk("Six(a,Ta(0,0,0))") + " a<3": "none", mk("Six(a,Ta(0,0,0))") + " a=0": "none", mk("Six(a,Ta(0,0,0))") + " a<0": "never", mk("Six(a,Ta(0,0,0))"): mk("Six(a,Ta(0,0,0))"), mk("Six(a,_)") + " a<3": mk("Six(a@0-2,_)"), mk("Six(a,b@c@_)") + " a<3": mk("Six(a@0-2,b@c@_)"), mk("Six(a,b@c@d@_)") + " a<3": "none", mk("Six(a@_,b@c@_)") + " a<3": mk("Six(a@0-2,b@c@_)"),
		// What is left of a PatOr can be smaller.
		mk("Six(a@(b|b),_)") + " a<3": "none", mk("Six(a@(b|b),_)") + " a<0": "never", mk("Six(a@(2|7),c)") + " a<3": mk("Six(a@2,c)"), small("Six(a@(b@7|b),c@d@_)") + " a<8": "none", small("Six(a@(b@7|b),c@d@_)") + " a<7": small("Six(a@b@0-6,c@d@_)"), small("Six(a@(b@7|b),c@_)") + " a<8": small("Six(a@(b@7|b@0-7),c@_)"),
	}}})
}

// swapCase has clauses for a type, a place, and what they are with the clause there and the next one exchanged, or "none".
type swapCase struct {
	world   string
	t       impl.Type
	clauses string
	i       int
	want    string
}

func TestSwapClauses(t *testing.T) {
	var first impl.Type
	many := "Tri(a," + cube(1, 6, 7)[6:]
	for _, c := range []swapCase{
		{listWorld, first, "Cons(3,_)/Nil/Cons(_,Nil)", 0, "Nil/Cons(3,_)/Cons(_,Nil)"}, {listWorld, first, "Cons(3,_)/Nil/Cons(_,Nil)", 1, "Cons(3,_)/Cons(_,Nil)/Nil"}, {listWorld, first, "Cons(3,_)/Nil/Cons(_,Nil)", 2, "none"}, {listWorld, first, "Cons(3,_)/Nil/Cons(_,Nil)", 3, "none"}, {listWorld, first, "Cons(3,_)/Nil/Cons(_,Nil)", -1, "none"}, {listWorld, first, "Cons(3,_)/Nil", math.MaxInt, "none"}, {listWorld, first, "Cons(3,_)/Nil", math.MinInt, "none"}, {listWorld, first, "Cons(3,_)/Nil", math.MaxInt - 1, "none"},
		{listWorld, first, "", 0, "none"}, {listWorld, first, "", -1, "none"}, {listWorld, first, "_", 0, "none"}, {listWorld, first, "_", -1, "none"}, {listWorld, first, "Cons(3,_)/_", 0, "none"}, {listWorld, first, "_/Cons(3,_)", 0, "none"}, {listWorld, first, "Nil/Nil", 0, "none"}, {listWorld, first, "Cons(0-3,_)/Cons(4-9,_)", 0, "Cons(4-9,_)/Cons(0-3,_)"}, {listWorld, first, "Cons(0-4,_)/Cons(4-9,_)", 0, "none"}, {listWorld, first, "Cons(_,Nil)/Cons(3,Cons(_,_))", 0, "Cons(3,Cons(_,_))/Cons(_,Nil)"}, {listWorld, first, "Cons(_,Nil)/Cons(3,_)", 0, "none"}, {listWorld, first, "(Nil|Cons(3,_))/Cons((2|4),_)", 0, "Cons((2|4),_)/(Nil|Cons(3,_))"}, {listWorld, first, "(Nil|Cons(3,_))/Cons((2|3),_)", 0, "none"},
		// Guards go with their clauses, and values that match both patterns count also if no guard lets them.
		{listWorld, first, "Nil/Cons(a,_) a<3", 0, "Cons(a,_) a<3/Nil"}, {listWorld, first, "Cons(a,_) a<3/Cons(5,_)", 0, "none"}, {listWorld, first, "Cons(a,_) a<3/Cons(a,_) a=5", 0, "none"}, {listWorld, first, "Cons(a,_) a<0/Cons(_,_)", 0, "none"}, {listWorld, first, "Cons(a@0-2,_) a<9/Cons(b@3-5,c) b=4/Nil", 0, "Cons(b@3-5,c) b=4/Cons(a@0-2,_) a<9/Nil"},
		{"", intType, "3/4/5/6/7/8/9/_", 6, "none"}, {"", intType, "3/4/5/6/7/8/9/0", 6, "3/4/5/6/7/8/0/9"}, {"", intType, "3/4/5/6/7/8/9/0", 7, "none"}, {"", intType, "3/4/5/6/7/8/9/0", 0, "4/3/5/6/7/8/9/0"}, {"", intType, "(0-4|5-9)/3", 0, "none"},
		// Nothing matches both where there are no values.
		{neverWorld, first, "May(_)/May(_)", 0, "May(_)/May(_)"}, {neverWorld, first, "May(a)/_", 0, "_/May(a)"}, {neverWorld, impl.Type{Data: 1}, "a/_", 0, "_/a"}, {neverWorld, first, "Tru/_", 0, "none"},
		// It is not known whether these have values in common, whatever the others are.
		{cubeWorld, first, many + "/End", 0, "none"}, {cubeWorld, first, "End/" + many, 0, "none"}, {cubeWorld, first, "End/Tri(1,_,_)/" + many, 0, "Tri(1,_,_)/End/" + many}, {cubeWorld, first, "Tri(1,_,_)/" + many + " a<3/End", 1, "none"}, {cubeWorld, first, cube(8, 5, 1) + "/End", 0, "End/" + cube(8, 5, 1)},
	} {
		w, _ := impl.ParseWorld(c.world)
		list := mustClauses(t, w, c.t, c.clauses)
		got := "none"
		if checkSwapped(t, rulesOf(w), c.t, list, c.i) {
			swapped, _ := impl.SwapClauses(w, c.t, list, c.i)
			got = impl.FormatClauses(w, c.t, swapped)
		}
		if got != c.want {
			t.Errorf("%q, %v: SwapClauses(%s, %d) = %s, not %s", c.world, c.t, c.clauses, c.i, got, c.want)
		}
	}
}

// checkSwapped checks valid clauses with two of them exchanged, and returns whether they are.
func checkSwapped(t *testing.T, x rules, ty impl.Type, list []impl.Clause, i int) bool {
	t.Helper()
	name := impl.FormatClauses(x.w, ty, list)
	can := i >= 0 && i < len(list)-1
	if can {
		both, known := x.meetOf(ty, list[i].Pat, list[i+1].Pat)
		can = known && len(both) == 0
	}
	if !can {
		checkNotSwapped(t, name, x.w, ty, list, i)
		return false
	}
	want := slices.Concat(list[:i], list[i+1:i+2], list[i:i+1], list[i+2:])
	swapped, ok := impl.SwapClauses(x.w, ty, list, i)
	if !ok || !equalClauses(swapped, want) || sharePatterns(slices.Concat(patternsOf(swapped), patternsOf(list))) || impl.FormatClauses(x.w, ty, list) != name {
		t.Fatalf("%q, %v: SwapClauses(%s, %d) = %v, %v", impl.FormatWorld(x.w), ty, name, i, swapped, ok)
	}
	return true
}

// checkClosed checks valid clauses with one for what is missing, and returns whether there are such clauses.
func checkClosed(t *testing.T, x rules, ty impl.Type, list []impl.Clause) bool {
	t.Helper()
	name := impl.FormatClauses(x.w, ty, list)
	missing, known := x.uncoveredOf(ty, anyPat(), list)
	want := slices.Clone(list)
	if len(missing) > 0 {
		want = append(want, clauseOf(anyPat()))
	}
	if !known || len(want) > 8 {
		checkNotClosed(t, name, x.w, ty, list)
		return false
	}
	closed, ok := impl.ClosedClauses(x.w, ty, list)
	if !ok || !equalClauses(closed, want) || sharePatterns(slices.Concat(patternsOf(closed), patternsOf(list))) || impl.FormatClauses(x.w, ty, list) != name {
		t.Fatalf("%q, %v: ClosedClauses(%s) = %v, %v, not %v", impl.FormatWorld(x.w), ty, name, closed, ok, want)
	}
	if all, _ := impl.Exhaustive(x.w, ty, closed); !all {
		t.Fatalf("%q, %v: ClosedClauses(%s) = %v does not cover all values", impl.FormatWorld(x.w), ty, name, closed)
	}
	return true
}

func TestClosedClauses(t *testing.T) {
	var first impl.Type
	seven := strings.Join(slices.Repeat([]string{"Nil"}, 7), "/")
	many := "Tri(a," + cube(1, 6, 7)[6:]
	for _, c := range []struct {
		world   string
		t       impl.Type
		clauses string
		more    string // What comes behind the clauses, or "none".
	}{
		{listWorld, first, "", "_"}, {listWorld, first, "_", ""}, {listWorld, first, "a", ""}, {listWorld, first, "Nil", "/_"}, {listWorld, first, "Nil/Cons(_,_)", ""}, {listWorld, first, "Cons(3,_)/Nil/Cons(_,Nil)", "/_"}, {listWorld, first, "Nil/Cons(0-4,_)/Cons(5-9,_)", ""}, {listWorld, first, "Nil/Cons(0-4,_)/Cons(6-9,_)", "/_"}, {"", intType, "", "_"}, {"", intType, "0-9", ""}, {"", intType, "(0-3|5-9)", "/_"}, {"", intType, "(0-3|5-9)/4", ""},
		// A guard may fail for every value, also if it never does.
		{listWorld, first, "a@Nil/Cons(a,_) a<3", "/_"}, {listWorld, first, "Cons(a,_) a<3/_", ""}, {listWorld, first, "Nil/Cons(a,_) a<3/Cons(b,_)", ""}, {"", intType, "a a<9/b b=9", "/_"},
		// No more than eight clauses.
		{listWorld, first, seven, "/_"}, {listWorld, first, seven + "/Nil", "none"}, {listWorld, first, seven + "/_", ""}, {listWorld, first, seven + "/Cons(_,_)", ""}, {listWorld, first, seven + "/Cons(0-8,_)", "none"}, {listWorld, first, "_/" + seven, ""},
		// All values are covered where there are none.
		{neverWorld, impl.Type{Data: 1}, "", ""}, {neverWorld, impl.Type{Data: 1}, "Never(Never(_))", ""}, {neverWorld, first, "Tru/Fls", ""}, {neverWorld, first, "Tru", "/_"}, {neverWorld, first, "May(_)", "/_"}, {exprWorld, impl.Type{Index: 3}, "", ""},
		// It is not known what is missing.
		{listWorld, first, nested(9), "/_"}, {listWorld, first, nested(10), "none"}, {listWorld, first, nested(10) + "/_", ""}, {cubeWorld, first, many, "none"}, {cubeWorld, first, many + "/_", "none"}, {cubeWorld, first, "_/" + many, "none"}, {cubeWorld, first, many + " a<3", "/_"}, {cubeWorld, first, many + " a<3/_", ""},
	} {
		w, _ := impl.ParseWorld(c.world)
		list := mustClauses(t, w, c.t, c.clauses)
		want := c.clauses + c.more
		got := c.clauses + "none"
		if checkClosed(t, rulesOf(w), c.t, list) {
			closed, _ := impl.ClosedClauses(w, c.t, list)
			got = impl.FormatClauses(w, c.t, closed)
		}
		if got != want {
			t.Errorf("%q, %v: ClosedClauses(%s) = %s, not %s", c.world, c.t, c.clauses, got, want)
		}
	}
}

// checkSame checks whether two lists of clauses choose the same, and returns a part whose values choose different clauses.
func checkSame(t *testing.T, x rules, ty impl.Type, a, b []impl.Clause) (part impl.Pattern, differs, known bool) {
	t.Helper()
	part, differs, known = x.choiceDiffers(ty, a, b)
	for _, pair := range [][2][]impl.Clause{{a, b}, {b, a}} {
		same, ok := impl.SameChoice(x.w, ty, pair[0], pair[1])
		if ok != known || same != (known && !differs) {
			t.Fatalf("%q, %v: SameChoice(%s, %s) = %v, %v, not %v, %v", impl.FormatWorld(x.w), ty, impl.FormatClauses(x.w, ty, pair[0]), impl.FormatClauses(x.w, ty, pair[1]), same, ok, known && !differs, known)
		}
	}
	return part, differs, known
}

// sameCase has pairs of lists of clauses for a type, with a bar between them, and whether they choose the same: "same", "other" or "none".
type sameCase struct {
	world string
	t     impl.Type
	want  string
	pairs []string
}

func TestSameChoice(t *testing.T) {
	var first impl.Type
	const odds, four = "(1|(3|(5|(7|9))))", "(1|(3|(5|7)))"
	grid := "End/Tri(_,_,Duo(" + odds + ",1))/Tri(" + four + ",_,_)/Tri(_," + four + ",_)"
	many := "Tri(a," + cube(1, 6, 7)[6:]
	inner := func(n string) string { return "Aa(_,_,Ba(_,_,Ca(_,_," + n + ")))" }
	rest := "Wi(" + inner("(0|2-9)") + "," + inner("(0|2-9)") + ")"
	for _, c := range []sameCase{
		{"", intType, "same", []string{" & ", "_ & a", "_ & 0-9", "3 & (3|3)", "(1|3) & (3|1)", "0-4/_ & (0-2|1-4)/5-9", "3/2-5 & 3/(2|4-5)", "3/_/5 & 3/a/9", "0/1/2/3/4/5/6/7 & 0/1/2/3/4/5/6/7"}}, {"", intType, "other", []string{"_ & 0-8", "3 & 4", "3 & 3-4", "0-4/_ & 0-5/_", "3/2-5 & 2/2-5", "3/_ & _/3", "1/2/3 & 1/3/2", "0/1/2/3/4/5/6/7 & 0/1/2/3/4/5/6/8"}},
		{listWorld, first, "same", []string{" & ", "_ & (Nil|Cons(_,_))", "Nil/_ & Nil/Cons(_,_)", "Nil/Cons(0-4,_)/_ & Nil/Cons((0-2|1-4),_)/Cons(5-9,_)", "Nil & Nil", "Cons(3,_) & Cons((3|3),_)", "Cons(a,b) & Cons(b,_)"}},
		// Clauses that no value reaches can be different.
		{listWorld, first, "same", []string{"_/Nil & a/Cons(_,_)", "Nil/_/_ & Nil/Cons(_,_)/Nil", "Nil/Nil/Cons(3,_) & Nil/(Nil|Nil)/Cons(3,_)"}}, {listWorld, first, "other", []string{"Nil/Nil/Cons(3,_) & Nil/Cons(3,_)/Cons(3,_)", "_/Nil & Nil/_", "Nil/_/Cons(3,_) & Nil/Cons(0-2,_)/_"}},
		// What is missing counts, too.
		{listWorld, first, "other", []string{"Nil & _", "Nil & Cons(_,_)", "Nil/Cons(_,_) & Cons(_,_)/Nil", "Cons(3,_) & Cons(3-4,_)", "Cons(3,_)/Nil & Cons(3,Nil)/Nil", "Nil/Cons(0-4,_)/_ & Nil/Cons(0-5,_)/_", "Nil/Cons(0-4,_)/_ & Nil/Cons(0-4,_)/Cons(5-8,_)", "Cons(_,Cons(_,Nil)) & Cons(_,Cons(_,_))"}},
		// Other lengths, and guards, also ones that always hold or never do.
		{listWorld, first, "none", []string{" & _", "Nil & Nil/Nil", "_/_ & _", "Cons(a,_) a<3 & Cons(a,_) a<3", "Cons(a,_) a<0/_ & Nil/_", "_/Cons(a,_) a<3 & _/Nil", "_/Nil & _/Cons(a,_) a<3", "Cons(a@3,_) a=3 & Cons(3,_)"}}, {"", intType, "none", []string{"a a<9 & 0-8", "_ & a a=3", "3/4 & 3"}},
		// Values of no type.
		{neverWorld, impl.Type{Data: 1}, "same", []string{" & ", "_ & Never(_)", "Never(_) & Never(Never(_))", "_/a & Never(Never(_))/_"}}, {neverWorld, first, "same", []string{"Tru/May(_)/Fls & Tru/May(Never(_))/Fls", "Tru/Fls/_ & Tru/Fls/May(_)", "Tru/May(_) & Tru/Tru"}}, {neverWorld, first, "other", []string{"Tru/_ & Tru/May(_)"}},
		{exprWorld, impl.Type{Index: 1}, "same", []string{"Num(_)/Add(_,_)/_ & Num(_)/Add(_,_)/If(_,_,_)", "If(_,_,_)/_ & If(_,_,_)/(Num(_)|Add(_,_))"}}, {exprWorld, impl.Type{Index: 1}, "other", []string{"Num(_)/Add(_,_)/_ & Num(_)/If(_,_,_)/_"}}, {exprWorld, first, "other", []string{"Num(_)/Add(_,_)/_ & Num(_)/Add(_,_)/If(_,_,_)"}},
		// It is not known what reaches a clause, or what is missing.
		{listWorld, first, "none", []string{nested(10) + " & " + nested(10), nested(10) + " & Nil", "Nil & " + nested(10), nested(10) + "/_ & " + nested(10) + "/_", nested(10) + "/_ & Nil/_"}}, {listWorld, first, "same", []string{nested(9) + "/_ & " + nested(9) + "/_", "_/" + nested(10) + " & _/Nil", nested(9) + " & " + nested(9)}}, {cubeWorld, first, "none", []string{many + " & " + many, "_/" + many + " & _/_", "End/" + many + " & End/Tri(_,0-5,0-6)", many + "/_ & _/_"}}, {cubeWorld, first, "same", []string{cube(8, 5, 1) + " & Tri(0-7,0-4,0)", cube(5, 8, 1) + "/" + cube(8, 5, 1) + " & Tri(0-4,0-7,0)/Tri(0-7,0-4,0)"}}, {cubeWorld, first, "other", []string{cube(8, 5, 1) + " & Tri(0-7,0-4,_)"}},
		// More than 40 parts, also of what is missing, and too many to take away more.
		{boxWorld, first, "same", []string{grid + " & " + grid, grid + "/_ & " + grid + "/_"}}, {boxWorld, first, "other", []string{grid + "/_ & " + grid + "/Tri(0,0,Ont)", grid + "/Tri(0,_,_) & " + grid + "/Tri(0-2,_,_)"}}, {boxWorld, first, "none", []string{grid + "/Tri(0,0,Duo(4,4)) & " + grid + "/Tri(0,0,Duo(4,4))", grid + "/_ & " + grid + "/Tri(0,0,Duo(4,4))"}},
		// The only values that make a difference match what is larger than a pattern, or are too deep to be valid.
		{wideWorld, first, "other", []string{rest + "/Wi(_," + wide40 + ")/Wi(" + inner("1") + "," + inner("(0|2-9)") + ") & " + rest + "/Wi(" + inner("(0|2-9)") + "," + wide40 + ")/Wi(" + wide22 + ",_)"}}, {deepWorld, first, "other", []string{"Lo/Hi(_)/_ & Lo/Up(_)/_"}}, {deepWorld, first, "same", []string{"Lo/Hi(_)/_ & Lo/Hi(_)/Up(_)"}},
	} {
		w, _ := impl.ParseWorld(c.world)
		for _, pair := range c.pairs {
			a, b, _ := strings.Cut(pair, " & ")
			_, differs, known := checkSame(t, rulesOf(w), c.t, mustClauses(t, w, c.t, a), mustClauses(t, w, c.t, b))
			got := map[[2]bool]string{{true, true}: "other", {false, true}: "same", {false, false}: "none"}[[2]bool{differs, known}]
			if got != c.want {
				t.Errorf("%q, %v: SameChoice(%s) is %s, not %s", c.world, c.t, pair, got, c.want)
			}
		}
	}
}

func TestSameChoiceOfInvalidClauses(t *testing.T) {
	w := mustWorld(t, listWorld)
	valid := mustClauses(t, w, impl.Type{}, "Nil/_")
	for _, bad := range [][]impl.Clause{{{}, {}}, {clauseOf(ctorPat(0)), clauseOf(varPat(6))}, {clauseOf(ctorPat(2)), clauseOf(anyPat())}, {clauseOf(ctorPat(0)), guarded(anyPat(), impl.Guard{N: 1})}, {clauseOf(ctorPat(0)), guarded(anyPat(), impl.Guard{Var: 1})}, {clauseOf(loop(anyPat())), clauseOf(anyPat())}} {
		checkNotCompared(t, "one list", w, impl.Type{}, valid, bad)
		checkNotCompared(t, "both lists", w, impl.Type{}, bad, bad)
	}
	nine := slices.Repeat([]impl.Clause{clauseOf(anyPat())}, 9)
	checkNotCompared(t, "nine clauses", w, impl.Type{}, nine, nine)
	checkNotCompared(t, "another index", mustWorld(t, exprWorld), impl.Type{Index: 1}, []impl.Clause{clauseOf(ctorPat(1, anyPat()))}, []impl.Clause{clauseOf(anyPat())})
}

// checkChoice checks that values choose clauses in two lists whose places belong together, with the same variables, and returns how many choose one.
func checkChoice(t *testing.T, w []impl.Data, ty impl.Type, a, b []impl.Clause, place func(i int) int, values []impl.Value) int {
	t.Helper()
	count := 0
	for _, v := range values {
		i, binds, _ := impl.RunClauses(w, ty, a, v)
		want := i
		if i >= 0 {
			want = place(i)
			count++
		}
		k, others, ok := impl.RunClauses(w, ty, b, v)
		if !ok || k != want || !equalBinds(mapOf(binds), mapOf(others)) {
			t.Fatalf("%q, %v: %s chooses %d of %s, and %d of %s, or other variables", impl.FormatWorld(w), ty, impl.FormatValue(w, ty, v), i, impl.FormatClauses(w, ty, a), k, impl.FormatClauses(w, ty, b))
		}
	}
	return count
}

func samePlace(i int) int { return i }

func TestRandomSimplified(t *testing.T) {
	r := rand.New(rand.NewPCG(38, 38))
	invalid, simpler, vars, matching, others := 0, 0, 0, 0, 0
	for range 12000 {
		w, ty := randomUsed(r)
		p, _ := randomPair(r, w, ty)
		if r.IntN(3) == 0 {
			p = orPat(p, changedPattern(r, p))
		}
		if !impl.PatternValid(w, ty, p) {
			invalid++
			checkNotSimple(t, "random", w, ty, p)
			continue
		}
		// A pattern that is read shares no memory with itself.
		p = mustPattern(t, w, ty, impl.FormatPattern(w, ty, p))
		s := checkSimple(t, w, ty, p)
		if !equalPatterns(s, p) {
			simpler++
			if len(impl.PatternVars(w, ty, s)) > 0 {
				vars++
			}
		}
		if !slices.Equal(impl.PatternVars(w, ty, s), impl.PatternVars(w, ty, p)) {
			t.Fatalf("%q, %v: %v has other variables than %v", impl.FormatWorld(w), ty, s, p)
		}
		list, rewritten := []impl.Clause{clauseOf(p)}, []impl.Clause{clauseOf(s)}
		values := slices.DeleteFunc(matchingValues(r, w, ty, list, []impl.Pattern{s}), func(v impl.Value) bool { return !impl.ValueValid(w, ty, v) })
		count := checkChoice(t, w, ty, list, rewritten, samePlace, values)
		matching, others = matching+count, others+len(values)-count
	}
	if invalid < 2000 || simpler < 3000 || vars < 400 || matching < 50000 || others < 30000 {
		t.Errorf("only %d patterns are not valid, %d become simpler, %d of these have variables, %d values match, %d do not", invalid, simpler, vars, matching, others)
	}
}

// randomNumbers is a pattern for numbers that binds variables from v on, in most cases outside of each PatOr.
func randomNumbers(r *rand.Rand, w []impl.Data, v int) impl.Pattern {
	p := randomPattern(r, w, intType, 4, nil)
	if r.IntN(3) == 0 {
		inner := randomNumbers(r, w, 5)
		p = orPat(inner, inner)
		if r.IntN(2) == 0 {
			p = orPat(asPat(5, randomPattern(r, w, intType, 3, nil)), varPat(5))
		}
	}
	if r.IntN(5) == 0 {
		return varPat(v)
	}
	return asPat(v, p)
}

// randomNarrow is a clause with a guard for one of the numbers in it.
func randomNarrow(r *rand.Rand, w []impl.Data, ty impl.Type) impl.Clause {
	p := randomPattern(r, w, ty, 1+r.IntN(5), []int{1, 2, 3})
	if ty == intType || r.IntN(3) == 0 {
		p = randomPattern(r, w, ty, 1+r.IntN(3), nil)
	}
	// A pattern for numbers in place of one that has no parts.
	var put func(t impl.Type, p impl.Pattern) (impl.Pattern, bool)
	put = func(t impl.Type, p impl.Pattern) (impl.Pattern, bool) {
		if t == intType {
			return randomNumbers(r, w, 0), true
		}
		types := operandTypes(w, t, p)
		for i, kid := range p.Kids {
			if part, ok := put(types[i], kid); ok && (p.Op != impl.PatOr || r.IntN(4) == 0) {
				p.Kids = slices.Clone(p.Kids)
				p.Kids[i] = part
				return p, true
			}
		}
		return p, false
	}
	if _, ok := variables(w, ty, p); ok {
		p, _ = put(ty, p)
	}
	g := randomGuard(r, w, ty, p)
	if g.Op != 0 && r.IntN(4) == 0 {
		g.N = min(g.N, r.IntN(3))
	}
	return guarded(p, g)
}

func TestRandomNarrowed(t *testing.T) {
	r := rand.New(rand.NewPCG(39, 39))
	invalid, values := 0, 0
	kinds := [guardLarge + 1]int{}
	for range 30000 {
		w, ty := randomUsed(r)
		c := randomNarrow(r, w, ty)
		if r.IntN(20) == 0 {
			c = changedClauses(r, []impl.Clause{c})[0]
		}
		if !impl.ClauseValid(w, ty, c) {
			invalid++
			checkNotPlain(t, "random", w, ty, c, false)
			continue
		}
		list := mustClauses(t, w, ty, impl.FormatClauses(w, ty, []impl.Clause{c}))
		plain, kind := checkPlain(t, w, ty, list[0])
		if c.Guard.Op == 0 {
			continue
		}
		kinds[kind]++
		matching := slices.DeleteFunc(matchingValues(r, w, ty, append(list, list...), nil), func(v impl.Value) bool { return !impl.ValueValid(w, ty, v) })
		switch kind {
		case guardGone:
			values += checkChoice(t, w, ty, list, []impl.Clause{plain}, samePlace, matching)
		case guardNever:
			checkChoice(t, w, ty, list, nil, samePlace, matching)
		}
	}
	if invalid < 1000 || kinds[guardGone] < 2000 || kinds[guardNever] < 800 || kinds[guardBetween] < 200 || values < 8000 {
		t.Errorf("only %d clauses are not valid, %v guards are gone, never hold, stand between or are too large, %d values choose a clause", invalid, kinds, values)
	}
}

// rewrittenClauses are clauses with simpler patterns, and with guards that are gone, where there are any.
func rewrittenClauses(t *testing.T, w []impl.Data, ty impl.Type, list []impl.Clause) []impl.Clause {
	t.Helper()
	var simpler []impl.Clause
	for _, c := range list {
		plain, kind := checkPlain(t, w, ty, c)
		if kind != guardGone {
			plain = c
		}
		plain.Pat = checkSimple(t, w, ty, plain.Pat)
		simpler = append(simpler, plain)
	}
	return simpler
}

func TestRandomRewrites(t *testing.T) {
	r := rand.New(rand.NewPCG(40, 40))
	invalid, chosen, swapped, kept, closed, open, simpler := 0, 0, 0, 0, 0, 0, 0
	for i := range 2500 {
		w, ty := randomUsed(r)
		list := randomMixed(r, w, ty, i%3 == 0)
		if !impl.ClausesValid(w, ty, list) {
			invalid++
			checkNotRewritten(t, "random", w, ty, list)
			continue
		}
		list = mustClauses(t, w, ty, impl.FormatClauses(w, ty, list))
		x := rulesOf(w)
		values := slices.DeleteFunc(matchingValues(r, w, ty, list, nil), func(v impl.Value) bool { return !impl.ValueValid(w, ty, v) })
		rewritten := rewrittenClauses(t, w, ty, list)
		if !equalClauses(rewritten, list) {
			simpler++
		}
		chosen += checkChoice(t, w, ty, list, rewritten, samePlace, values)
		for k := -1; k <= len(list); k++ {
			if !checkSwapped(t, x, ty, list, k) {
				kept++
				continue
			}
			swapped++
			others, _ := impl.SwapClauses(w, ty, list, k)
			checkChoice(t, w, ty, list, others, func(i int) int {
				switch i {
				case k:
					return k + 1
				case k + 1:
					return k
				}
				return i
			}, values)
		}
		if !checkClosed(t, x, ty, list) {
			open++
			continue
		}
		closed++
		others, _ := impl.ClosedClauses(w, ty, list)
		for _, v := range values {
			i, _, _ := impl.RunClauses(w, ty, list, v)
			k, _, _ := impl.RunClauses(w, ty, others, v)
			if k < 0 || i >= 0 && k != i || i < 0 && k != len(list) {
				t.Fatalf("%q, %v: %s chooses %d of %s, and %d of %s", impl.FormatWorld(w), ty, impl.FormatValue(w, ty, v), i, impl.FormatClauses(w, ty, list), k, impl.FormatClauses(w, ty, others))
			}
		}
	}
	if invalid < 80 || chosen < 30000 || swapped < 2000 || kept < 8000 || closed < 1500 || open < 10 || simpler < 800 {
		t.Errorf("only %d lists are not valid, %d values choose a clause, %d pairs are exchanged, %d are not, %d lists are closed, %d are not, %d become simpler", invalid, chosen, swapped, kept, closed, open, simpler)
	}
}

// randomVariant is a list of as many clauses, in most cases, of which some are different, but often choose the same.
func randomVariant(r *rand.Rand, w []impl.Data, ty impl.Type, list []impl.Clause) []impl.Clause {
	list = slices.Clone(list)
	for range r.IntN(4) {
		if len(list) == 0 {
			break
		}
		i := r.IntN(len(list))
		c := &list[i]
		switch r.IntN(7) {
		case 0:
			c.Pat, _ = impl.SimplifyPattern(w, ty, c.Pat)
		case 1:
			c.Pat = orPat(bareOf(c.Pat), bareOf(c.Pat))
		case 2:
			if len(chosen(c.Pat, nil)) > 1 || !impl.PatternValid(w, ty, c.Pat) {
				continue
			}
			if cut := cutOnce(r, w, ty, bareOf(c.Pat)); len(cut) == 2 {
				c.Pat = orPat(cut[1], cut[0])
			}
		case 3:
			// What the clauses before it cover can be left out.
			if reached, _ := impl.ReachedPatterns(w, ty, list, i); len(reached) == 1 {
				c.Pat = reached[0]
			}
		case 4:
			k := r.IntN(len(list))
			list[i], list[k] = list[k], list[i]
		case 5:
			c.Pat = changedPattern(r, c.Pat)
		case 6:
			if i == len(list)-1 {
				c.Pat = anyPat()
			}
		}
	}
	if r.IntN(20) == 0 {
		list = changedClauses(r, list)
	}
	return list
}

func TestRandomSameChoice(t *testing.T) {
	r := rand.New(rand.NewPCG(41, 41))
	unknown, same, changed, different, witnesses, compared := 0, 0, 0, 0, 0, 0
	for range 4000 {
		w, ty := randomUsed(r)
		list := randomCover(r, w, ty)
		for i := range list {
			list[i].Guard = impl.Guard{}
		}
		if !impl.ClausesValid(w, ty, list) {
			continue
		}
		variant := randomVariant(r, w, ty, list)
		if !impl.ClausesValid(w, ty, variant) {
			checkNotCompared(t, "random", w, ty, list, variant)
			continue
		}
		part, differs, known := checkSame(t, rulesOf(w), ty, list, variant)
		switch {
		case !known:
			unknown++
		case differs:
			different++
			if v, ok := impl.SamplePattern(w, ty, part); ok {
				witnesses++
				i, _, _ := impl.RunClauses(w, ty, list, v)
				if k, _, _ := impl.RunClauses(w, ty, variant, v); k == i {
					t.Fatalf("%q, %v: %s chooses %d of both of %s and %s", impl.FormatWorld(w), ty, impl.FormatValue(w, ty, v), i, impl.FormatClauses(w, ty, list), impl.FormatClauses(w, ty, variant))
				}
			}
		default:
			same++
			if !equalClauses(list, variant) {
				changed++
			}
			for _, v := range matchingValues(r, w, ty, append(list, variant...), nil) {
				i, _, _ := impl.RunClauses(w, ty, list, v)
				if k, _, _ := impl.RunClauses(w, ty, variant, v); k != i {
					t.Fatalf("%q, %v: %s chooses %d of %s, and %d of %s", impl.FormatWorld(w), ty, impl.FormatValue(w, ty, v), i, impl.FormatClauses(w, ty, list), k, impl.FormatClauses(w, ty, variant))
				}
				compared++
			}
		}
	}
	if unknown < 40 || same < 2000 || changed < 500 || different < 200 || witnesses < 200 || compared < 50000 {
		t.Errorf("only %d pairs are not known, %d choose the same, %d of these are changed, %d choose differently, %d values show it, %d choose the same", unknown, same, changed, different, witnesses, compared)
	}
}

func TestRewritesLeaveArguments(t *testing.T) {
	w := mustWorld(t, optWorld)
	const text = "f@Pair((a@Som(b@(1|2))|a@Som(b)),(Non|Som(_)))/Pair(Som(c@(1|2)),d) c<5/Pair(Non,Non)/Pair(Som(_),Non)"
	spare := append(mustClauses(t, w, impl.Type{}, text), guarded(varPat(5), equal(5, 5)))
	list := spare[:4]
	s, _ := impl.SimplifyPattern(w, impl.Type{}, list[0].Pat)
	stays, _ := impl.SimplifyPattern(w, impl.Type{}, list[3].Pat)
	same, _ := impl.GuardPattern(w, impl.Type{}, list[0])
	plain, _ := impl.GuardPattern(w, impl.Type{}, list[1])
	swapped, ok := impl.SwapClauses(w, impl.Type{}, list, 2)
	closed, closedOk := impl.ClosedClauses(w, impl.Type{}, list)
	impl.GuardNever(w, impl.Type{}, list[1])
	impl.SameChoice(w, impl.Type{}, list[2:], list[2:])
	if impl.FormatPattern(w, impl.Type{}, s) != "f@Pair((a@Som(b@1-2)|a@Som(b)),_)" || impl.FormatClauses(w, impl.Type{}, []impl.Clause{plain}) != "Pair(Som(c@(1|2)),d)" || !ok || !closedOk || len(swapped) != 4 || len(closed) != 5 {
		t.Errorf("%v, %v, %v, %v", s, plain, swapped, closed)
	}
	results := slices.Concat([]impl.Pattern{s, stays, same.Pat, plain.Pat}, patternsOf(swapped), patternsOf(closed))
	if sharePatterns(slices.Concat(results, patternsOf(spare))) {
		t.Error("results share memory")
	}
	// What is written into results is not seen in arguments.
	for _, p := range results {
		for i := range p.Kids {
			p.Kids[i].Op = 99
			for k := range p.Kids[i].Kids {
				p.Kids[i].Kids[k].Op = 99
			}
		}
		_ = append(p.Kids, anyPat())
	}
	swapped[0].Guard, closed[1].Guard = less(3, 3), less(3, 3)
	_ = append(swapped, clauseOf(anyPat()))
	if impl.FormatClauses(w, impl.Type{}, list) != text || spare[4].Guard != equal(5, 5) || impl.FormatWorld(w) != optWorld {
		t.Errorf("arguments are changed: %v", spare)
	}
}
