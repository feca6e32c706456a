package tests

import (
	"maps"
	"math"
	"math/rand/v2"
	"slices"
	"strings"
	"testing"

	"loop.example/matchcompiler/impl"
)

const (
	optWorld  = "P=Pair(O,O);O=Non|Som(I)"
	cubeWorld = "T=Tri(I,I,I)|End"
)

func anyPat() impl.Pattern { return impl.Pattern{Op: impl.PatAny} }

func varPat(v int) impl.Pattern { return impl.Pattern{Op: impl.PatVar, Var: v} }

func intPat(n, m int) impl.Pattern { return impl.Pattern{Op: impl.PatInt, N: n, M: m} }

func ctorPat(ctor int, kids ...impl.Pattern) impl.Pattern {
	return impl.Pattern{Op: impl.PatCtor, Ctor: ctor, Kids: kids}
}

func orPat(kids ...impl.Pattern) impl.Pattern { return impl.Pattern{Op: impl.PatOr, Kids: kids} }

func asPat(v int, kids ...impl.Pattern) impl.Pattern {
	return impl.Pattern{Op: impl.PatAs, Var: v, Kids: kids}
}

func mustPattern(t *testing.T, w []impl.Data, ty impl.Type, text string) impl.Pattern {
	t.Helper()
	p, ok := impl.ParsePattern(w, ty, text)
	if !ok {
		t.Fatalf("ParsePattern(%v, %q) fails", ty, text)
	}
	return p
}

func isZeroPattern(p impl.Pattern) bool { return len(p.Kids) == 0 && headOf(p) == [5]int{} }

// headOf are the fields of a node but for its Kids.
func headOf(p impl.Pattern) [5]int { return [5]int{p.Op, p.Ctor, p.N, p.M, p.Var} }

func equalPatterns(a, b impl.Pattern) bool {
	return headOf(a) == headOf(b) && slices.EqualFunc(a.Kids, b.Kids, equalPatterns)
}

func patternSize(p impl.Pattern) int {
	size := 1
	for _, kid := range p.Kids {
		size += patternSize(kid)
	}
	return size
}

func patternHeight(p impl.Pattern) int {
	height := 0
	for _, kid := range p.Kids {
		height = max(height, patternHeight(kid))
	}
	return height + 1
}

// variables are those of a pattern of any size with their types, and false if it is none, straight from the definition.
func variables(w []impl.Data, t impl.Type, p impl.Pattern) (map[int]impl.Type, bool) {
	vars := map[int]impl.Type{}
	types := []impl.Type{}
	var fields [5]int
	ok := true
	switch p.Op {
	case impl.PatAny:
		fields = [5]int{1}
	case impl.PatVar, impl.PatAs:
		fields = [5]int{p.Op, 0, 0, 0, p.Var}
		vars[p.Var] = t
		ok = p.Var >= 0 && p.Var <= 5
		if p.Op == impl.PatAs {
			types = append(types, t)
		}
	case impl.PatInt:
		fields = [5]int{3, 0, p.N, p.M}
		ok = t == intType && p.N >= 0 && p.M >= p.N && p.M <= 9
	case impl.PatCtor:
		fields = [5]int{4, p.Ctor}
		types, ok = kidTypes(w, t, p.Ctor)
	case impl.PatOr:
		fields = [5]int{5}
		types = []impl.Type{t, t}
	default:
		ok = false
	}
	if !ok || headOf(p) != fields || len(p.Kids) != len(types) {
		return nil, false
	}
	if p.Op == impl.PatOr {
		first, isFirst := variables(w, t, p.Kids[0])
		second, isSecond := variables(w, t, p.Kids[1])
		return first, isFirst && isSecond && maps.Equal(first, second)
	}
	for i, kid := range p.Kids {
		more, ok := variables(w, types[i], kid)
		if !ok {
			return nil, false
		}
		for v, of := range more {
			if _, met := vars[v]; met {
				return nil, false
			}
			vars[v] = of
		}
	}
	return vars, true
}

// replaceFirst is p with one of the parts of its first PatOr in place of it.
func replaceFirst(p impl.Pattern, part int) (impl.Pattern, bool) {
	if p.Op == impl.PatOr {
		return p.Kids[part], true
	}
	for i, kid := range p.Kids {
		if kid, ok := replaceFirst(kid, part); ok {
			p.Kids = slices.Clone(p.Kids)
			p.Kids[i] = kid
			return p, true
		}
	}
	return p, false
}

// chosen are the patterns without PatOr for which p stands, up to 500 of them.
func chosen(p impl.Pattern, list []impl.Pattern) []impl.Pattern {
	if len(list) >= 500 {
		return list
	}
	first, ok := replaceFirst(p, 0)
	if !ok {
		return append(list, p)
	}
	second, _ := replaceFirst(p, 1)
	return chosen(second, chosen(first, list))
}

// matches reports whether a value matches a pattern without PatOr, and adds what its variables stand for.
func matches(p impl.Pattern, v impl.Value, binds map[int]impl.Value) bool {
	ok := true
	switch p.Op {
	case impl.PatVar:
		binds[p.Var] = v
	case impl.PatInt:
		ok = p.N <= v.N && v.N <= p.M
	case impl.PatCtor:
		ok = p.Ctor == v.Ctor
		for i := 0; ok && i < len(p.Kids); i++ {
			ok = matches(p.Kids[i], v.Kids[i], binds)
		}
	case impl.PatAs:
		binds[p.Var] = v
		ok = matches(p.Kids[0], v, binds)
	}
	return ok
}

func mapOf(binds []impl.Bind) map[int]impl.Value {
	values := map[int]impl.Value{}
	for _, b := range binds {
		values[b.Var] = b.Value
	}
	return values
}

func equalBinds(a, b map[int]impl.Value) bool {
	return maps.EqualFunc(a, b, func(x, y impl.Value) bool { return compared(x, y) == 0 })
}

// randomPattern is a pattern for a type, in most cases, with some of these variables.
func randomPattern(r *rand.Rand, w []impl.Data, t impl.Type, depth int, vars []int) impl.Pattern {
	of := func(t impl.Type, depth int) impl.Pattern {
		p := randomPattern(r, w, t, depth, vars)
		used, _ := variables(w, t, p)
		vars = slices.DeleteFunc(slices.Clone(vars), func(v int) bool { _, is := used[v]; return is })
		return p
	}
	if len(vars) > 0 && r.IntN(3) == 0 {
		v := vars[r.IntN(len(vars))]
		if depth <= 1 || r.IntN(2) == 0 {
			return varPat(v)
		}
		vars = slices.DeleteFunc(slices.Clone(vars), func(other int) bool { return other == v })
		return asPat(v, of(t, depth-1))
	}
	if depth > 1 && r.IntN(4) == 0 {
		return randomOr(r, w, t, depth-1, vars)
	}
	if t == intType && r.IntN(3) > 0 {
		n := r.IntN(10)
		return intPat(n, n+r.IntN(min(10-n, 1+r.IntN(10))))
	}
	if t == intType || r.IntN(5) == 0 {
		return anyPat()
	}
	ctor := r.IntN(len(w[t.Data].Ctors))
	types, ok := kidTypes(w, t, ctor)
	if !ok || depth <= 1 && len(types) > 0 {
		return anyPat()
	}
	p := ctorPat(ctor)
	for _, kid := range types {
		p.Kids = append(p.Kids, of(kid, depth-1))
	}
	return p
}

// randomOr is a PatOr whose parts have the same variables, in most cases.
func randomOr(r *rand.Rand, w []impl.Data, t impl.Type, depth int, vars []int) impl.Pattern {
	first := randomPattern(r, w, t, depth, vars)
	used, _ := variables(w, t, first)
	for range 20 {
		second := randomPattern(r, w, t, depth, slices.Sorted(maps.Keys(used)))
		if same, ok := variables(w, t, second); ok && maps.Equal(used, same) {
			return orPat(first, second)
		}
	}
	// The parts of the second one that have no variables can be other ones.
	var altered func(t impl.Type, p impl.Pattern, depth int) impl.Pattern
	altered = func(t impl.Type, p impl.Pattern, depth int) impl.Pattern {
		if used, _ := variables(w, t, p); len(used) == 0 {
			return randomPattern(r, w, t, min(depth, 2), nil)
		}
		types, _ := kidTypes(w, t, p.Ctor)
		if p.Op != impl.PatCtor {
			types = []impl.Type{t, t}
		}
		p.Kids = slices.Clone(p.Kids)
		for i, kid := range p.Kids {
			p.Kids[i] = altered(types[i], kid, depth-1)
		}
		return p
	}
	return orPat(first, altered(t, first, depth))
}

// changedPattern is p with a small change at some node.
func changedPattern(r *rand.Rand, p impl.Pattern) impl.Pattern {
	p.Kids = slices.Clone(p.Kids)
	if len(p.Kids) > 0 && r.IntN(3) > 0 {
		i := r.IntN(len(p.Kids))
		p.Kids[i] = changedPattern(r, p.Kids[i])
		return p
	}
	step := 1 - 2*r.IntN(2)
	switch r.IntN(9) {
	case 0:
		p.Op += step
	case 1:
		p.Ctor += step
	case 2:
		p.N += step
	case 3:
		p.M += step
	case 4, 5:
		p.Var += step
	case 6:
		p.Kids = append(p.Kids, anyPat())
	case 7:
		p.Kids = p.Kids[:max(0, len(p.Kids)-1)]
	case 8:
		return asPat(r.IntN(3), p)
	}
	return p
}

// instance is a value that matches p, if there are values for its parts.
func instance(r *rand.Rand, w []impl.Data, t impl.Type, p impl.Pattern) (impl.Value, bool) {
	switch p.Op {
	case impl.PatInt:
		return number(p.N + r.IntN(p.M-p.N+1)), true
	case impl.PatOr:
		return instance(r, w, t, p.Kids[r.IntN(2)])
	case impl.PatAs:
		return instance(r, w, t, p.Kids[0])
	case impl.PatCtor:
		types, ok := kidTypes(w, t, p.Ctor)
		v := made(p.Ctor)
		for i := 0; ok && i < len(types); i++ {
			var kid impl.Value
			kid, ok = instance(r, w, types[i], p.Kids[i])
			v.Kids = append(v.Kids, kid)
		}
		return v, ok
	}
	return randomValue(r, w, t, 2)
}

// listText writes down patterns for a type, separated by spaces.
func listText(w []impl.Data, ty impl.Type, list []impl.Pattern) string {
	var texts []string
	for _, p := range list {
		texts = append(texts, impl.FormatPattern(w, ty, p))
	}
	return strings.Join(texts, " ")
}

func sharePatterns(list []impl.Pattern) bool {
	return sharePlaces(list, func(p impl.Pattern) []impl.Pattern { return p.Kids })
}

// bindText writes down what variables stand for, such as "a=Nil b=7".
func bindText(w []impl.Data, ty impl.Type, p impl.Pattern, binds []impl.Bind) string {
	types, _ := variables(w, ty, p)
	var list []string
	for _, b := range binds {
		list = append(list, string(rune('a'+b.Var))+"="+impl.FormatValue(w, types[b.Var], b.Value))
	}
	return strings.Join(list, " ")
}

// checkNoPatterns checks the results of all functions for a type that is not valid.
func checkNoPatterns(t *testing.T, name string, w []impl.Data, ty impl.Type) {
	t.Helper()
	for _, p := range []impl.Pattern{anyPat(), varPat(0), intPat(0, 9), ctorPat(0), asPat(0, anyPat()), orPat(anyPat(), anyPat()), orPat(varPat(1), varPat(1))} {
		checkNoPattern(t, name, w, ty, p)
	}
	for _, text := range []string{"", "_", "a", "0", "Aa", "Nil", "(_|_)", "a@_"} {
		if p, ok := impl.ParsePattern(w, ty, text); ok || !isZeroPattern(p) {
			t.Errorf("%s: ParsePattern(%v, %q) = %v, %v", name, ty, text, p, ok)
		}
	}
	for _, v := range []impl.Value{number(0), made(0)} {
		if p, ok := impl.PatternOf(w, ty, v); ok || !isZeroPattern(p) {
			t.Errorf("%s: PatternOf(%v, %v) = %v, %v", name, ty, v, p, ok)
		}
	}
}

// checkNoPattern checks the results of all functions for a pattern that is not valid.
func checkNoPattern(t *testing.T, name string, w []impl.Data, ty impl.Type, p impl.Pattern) {
	t.Helper()
	if impl.PatternValid(w, ty, p) || impl.FormatPattern(w, ty, p) != "" || len(impl.PatternVars(w, ty, p)) != 0 {
		t.Errorf("%s: a pattern for %v with Op %d, %d nodes and depth %d is valid", name, ty, p.Op, patternSize(p), patternHeight(p))
	}
	if list, ok := impl.SplitOr(w, ty, p); ok || len(list) != 0 {
		t.Errorf("%s: SplitOr(%v, Op %d) = %v, %v", name, ty, p.Op, list, ok)
	}
	for _, v := range []impl.Value{number(0), number(3), made(0), made(1, number(0), made(0))} {
		if b, ok := impl.MatchPattern(w, ty, p, v); ok || len(b) != 0 {
			t.Errorf("%s: MatchPattern(%v, Op %d, %v) = %v, %v", name, ty, p.Op, v, b, ok)
		}
	}
}

func TestPatternsOfInvalidTypes(t *testing.T) {
	eachInvalidType(t, func(name string, w []impl.Data, ty impl.Type) { checkNoPatterns(t, name, w, ty) })
}

func TestParsePattern(t *testing.T) {
	e := func(i int) impl.Type { return impl.Type{Index: i} }
	for _, c := range []struct {
		world string
		t     impl.Type
		text  string
		want  impl.Pattern
	}{
		{"", intType, "_", anyPat()}, {"", intType, "a", varPat(0)}, {"", intType, "f", varPat(5)}, {"", intType, "0", intPat(0, 0)}, {"", intType, "9", intPat(9, 9)},
		{"", intType, "0-9", intPat(0, 9)}, {"", intType, "2-5", intPat(2, 5)}, {"", intType, "8-9", intPat(8, 9)}, {"", intType, "(3|4-5)", orPat(intPat(3, 3), intPat(4, 5))},
		{"", intType, "a@3", asPat(0, intPat(3, 3))}, {"", intType, "f@0-9", asPat(5, intPat(0, 9))}, {"", intType, "(a|a)", orPat(varPat(0), varPat(0))}, {"", intType, "b@a@_", asPat(1, asPat(0, anyPat()))},
		{"", intType, "c@((0|1)|(2|3))", asPat(2, orPat(orPat(intPat(0, 0), intPat(1, 1)), orPat(intPat(2, 2), intPat(3, 3))))}, {"", intType, "(a@1|a@2)", orPat(asPat(0, intPat(1, 1)), asPat(0, intPat(2, 2)))},
		{listWorld, e(0), "_", anyPat()}, {listWorld, e(3), "b", varPat(1)}, {listWorld, e(0), "Nil", ctorPat(0)}, {listWorld, e(0), "Cons(_,_)", ctorPat(1, anyPat(), anyPat())},
		{listWorld, e(0), "a@Cons((5|7),b)", asPat(0, ctorPat(1, orPat(intPat(5, 5), intPat(7, 7)), varPat(1)))}, {listWorld, e(0), "Cons(b,a)", ctorPat(1, varPat(1), varPat(0))},
		{listWorld, e(0), "(Nil|Cons(_,Nil))", orPat(ctorPat(0), ctorPat(1, anyPat(), ctorPat(0)))}, {listWorld, e(0), "Cons(a@0-3,b@(Nil|_))", ctorPat(1, asPat(0, intPat(0, 3)), asPat(1, orPat(ctorPat(0), anyPat())))},
		// The parts of an alternative bind the variables in another order, and at other places.
		{optWorld, e(0), "(Pair(a,b)|Pair(b,a))", orPat(ctorPat(0, varPat(0), varPat(1)), ctorPat(0, varPat(1), varPat(0)))},
		{listWorld, e(0), "(Cons(a,_)|Cons(_,Cons(a,_)))", orPat(ctorPat(1, varPat(0), anyPat()), ctorPat(1, anyPat(), ctorPat(1, varPat(0), anyPat())))},
		{exprWorld, e(1), "Num(3)", ctorPat(0, intPat(3, 3))}, {exprWorld, e(2), "(If(a,_,_)|If(_,_,a))", orPat(ctorPat(3, varPat(0), anyPat(), anyPat()), ctorPat(3, anyPat(), anyPat(), varPat(0)))},
		{exprWorld, e(3), "If(_,_,a)", ctorPat(3, anyPat(), anyPat(), varPat(0))}, {exprWorld, e(0), "(Bol(_)|Num(_))", orPat(ctorPat(1, anyPat()), ctorPat(0, anyPat()))},
		// A type without values has patterns, too.
		{"N=Never(N)", e(0), "Never(Never(a))", ctorPat(0, ctorPat(0, varPat(0)))},
		{"A=I(I)|A|B(A)", e(0), "B(I(a@5-6))", ctorPat(2, ctorPat(0, asPat(0, intPat(5, 6))))},
	} {
		w, _ := impl.ParseWorld(c.world)
		p, ok := impl.ParsePattern(w, c.t, c.text)
		if !ok || !equalPatterns(p, c.want) || !impl.PatternSame(p, c.want) {
			t.Errorf("ParsePattern(%v, %q) = %v, %v, not %v", c.t, c.text, p, ok, c.want)
		}
		if got := impl.FormatPattern(w, c.t, c.want); got != c.text || !impl.PatternValid(w, c.t, c.want) {
			t.Errorf("FormatPattern(%v, %v) = %q, not %q", c.t, c.want, got, c.text)
		}
	}
}

func TestParsePatternRejects(t *testing.T) {
	list, expr := mustWorld(t, listWorld), mustWorld(t, exprWorld)
	for _, c := range []struct {
		w     []impl.Data
		t     impl.Type
		texts []string
	}{
		{list, intType, []string{
			"", "g", "z", "A", "aa", "ab", "a1", "_a", "__", "a_", "-", "-1", "1-", "1--2", "1-1", "3-3", "5-4", "9-0", "1-2-3", "10", "1-10", "01", "0-09", "1 ", " 1", "1- 2", "+1", "1..2", "1|2", "1,2", "a@", "@", "@a", "@1", "1@a", "_@a", "a@@1", "a@b@", "g@1",
			"a@a", "a@a@_", "a@b@a", "a@(a|a)", "a@(_|_)a", "()", "(", ")", "(1)", "(1|)", "(|1)", "(1|2", "1|2)", "(1,2)", "(1|2|3)", "((1|2)", "(1|2))", "((1|2))", "(1 |2)", "(a|b)", "(a|_)", "(_|a)", "(a@1|2)", "(a@1|b@2)", "((a|a)|_)", "Nil", "Num(1)", "a<3", "٣", "\x00", "\xff", "a\x00",
		}},
		{list, impl.Type{}, []string{
			"", "5", "0-9", "a@5", "(5|Nil)", "(Nil|5)", "nil", "Ni", "Nill", "L", "Tru", "Nil()", "Nil(_)", "Nil|Nil", "(Nil)", "(Nil|Nil", "Nila", "a Nil", "aNil", "a@", "a@5", "Cons", "Cons()", "Cons(_)", "Cons(_,", "Cons(_,_", "Cons(_,_,_)", "Cons(_,_))", "Cons(,_)", "Cons(_,)", "Cons(_|_)", "Cons_,_)", "Cons(_ ,_)",
			"Cons(_, _)", "Cons(a,a)", "Cons(a,b@a)", "a@Cons(a,_)", "a@Cons(_,a)", "Cons(a,Cons(_,a))", "Cons(a,(a|_))", "Cons(Nil,_)", "Cons(_,3)", "Cons(5-4,_)", "Cons(3-3,_)", "Cons(10,_)", "(Nil|a)", "(a|Nil)", "(Cons(a,_)|Nil)", "(Cons(a,_)|Cons(_,a))", "(Cons(a,b)|Cons(b,a))", "(Cons(a,b)|Cons(a,_))",
			"(Cons(a,_)|Cons(a,b))", "(a@Nil|b@Nil)", "(Nil|Cons(a,a))", "(Cons(a,a)|Cons(a,_))", "(a|(a|b))", "Cons(g,_)", "_,_", "(_|_)_", "_(", "\x00", "\xff", "_\x00", "C", "Co(_,_)",
			strings.Repeat("(", 100000), strings.Repeat("a@", 100000), strings.Repeat("Cons(_,", 100000), strings.Repeat("(_|", 100000), strings.Repeat("_", 100000), nested(11), strings.Repeat("Cons(_,", 10) + "_" + strings.Repeat(")", 10),
		}},
		// What the index of the type leaves out, also in parts.
		{expr, impl.Type{Index: 1}, []string{"Bol(_)", "Bol(Tru)", "(Num(_)|Bol(_))", "(Bol(_)|Num(_))", "a@Bol(_)", "If(Num(_),_,_)", "If(_,Bol(_),_)", "If(_,_,Bol(_))", "Add(_,Bol(_))", "Add(_,(Num(_)|Bol(_)))", "Tru"}},
		{expr, impl.Type{Index: 2}, []string{"Num(_)", "Add(_,_)", "If(_,Num(_),_)", "If(_,_,Num(_))", "Bol(Num(_))"}},
		{expr, impl.Type{Index: 3}, []string{"Num(_)", "Bol(_)", "If(_,Num(_),_)", "If(_,Bol(_),_)", "If(Num(_),_,_)", "(If(a,_,_)|If(_,a,_))"}},
		// The same variables, but with other types.
		{expr, impl.Type{}, []string{"If(Num(_),_,_)", "Add(Bol(_),_)", "(If(a,_,_)|If(_,a,_))", "(If(_,a,_)|If(a,_,_))", "(Num(a)|Bol(a))", "(Add(a,_)|If(a,_,_))", "(Add(a,_)|If(_,a,_))", "(If(a,b,_)|If(b,a,_))"}},
		{expr, impl.Type{Index: 1}, []string{"(If(a,_,_)|If(_,a,_))", "(Num(a)|Add(a,_))"}},
	} {
		for _, text := range c.texts {
			if p, ok := impl.ParsePattern(c.w, c.t, text); ok || !isZeroPattern(p) {
				t.Errorf("ParsePattern(%v, %q) = %v, %v", c.t, text[:min(50, len(text))], p, ok)
			}
		}
	}
}

func TestPatternValidRejects(t *testing.T) {
	list := mustWorld(t, listWorld)
	with := func(p impl.Pattern, change func(p *impl.Pattern)) impl.Pattern { change(&p); return p }
	any2, nil0 := ctorPat(1, anyPat(), anyPat()), ctorPat(0)
	var bad []impl.Pattern
	for _, p := range []impl.Pattern{anyPat(), varPat(1), nil0, any2, orPat(anyPat(), nil0), asPat(1, anyPat())} {
		if !impl.PatternValid(list, impl.Type{}, p) {
			t.Errorf("%v is not valid", p)
		}
		bad = append(bad,
			with(p, func(p *impl.Pattern) { p.N = 1 }), with(p, func(p *impl.Pattern) { p.M = 1 }), with(p, func(p *impl.Pattern) { p.M = -1 }),
			with(p, func(p *impl.Pattern) { p.Kids = append(slices.Clone(p.Kids), anyPat()) }), with(p, func(p *impl.Pattern) { p.Kids = make([]impl.Pattern, 1000000) }), with(p, func(p *impl.Pattern) { p.Op = 0 }), with(p, func(p *impl.Pattern) { p.Op = 7 }),
		)
		if len(p.Kids) > 0 {
			bad = append(bad, with(p, func(p *impl.Pattern) { p.Kids = p.Kids[1:] }), with(p, func(p *impl.Pattern) { p.Kids = nil }))
		}
		if p.Op != impl.PatVar && p.Op != impl.PatAs {
			bad = append(bad, with(p, func(p *impl.Pattern) { p.Var = 1 }), with(p, func(p *impl.Pattern) { p.Var = -1 }))
		}
		if p.Op != impl.PatCtor {
			bad = append(bad, with(p, func(p *impl.Pattern) { p.Ctor = 1 }), with(p, func(p *impl.Pattern) { p.Ctor = -1 }))
		}
	}
	for _, n := range []int{-1, 6, math.MinInt, math.MaxInt} {
		bad = append(bad, varPat(n), asPat(n, anyPat()), ctorPat(n), ctorPat(n, anyPat(), anyPat()), impl.Pattern{Op: n}, orPat(varPat(n), varPat(n)))
	}
	bad = append(bad, impl.Pattern{}, impl.Pattern{Op: 7}, ctorPat(2), intPat(0, 0), intPat(3, 5), ctorPat(1, nil0, nil0), ctorPat(1, anyPat(), intPat(1, 1)), ctorPat(1, anyPat(), impl.Pattern{}), orPat(anyPat(), impl.Pattern{}), orPat(impl.Pattern{}, anyPat()), asPat(0, impl.Pattern{}),
		asPat(0, varPat(0)), ctorPat(1, varPat(0), varPat(0)), orPat(varPat(0), varPat(1)), orPat(varPat(0), anyPat()), orPat(anyPat(), varPat(0)), orPat(ctorPat(1, varPat(0), anyPat()), ctorPat(1, anyPat(), varPat(0))))
	for _, p := range bad {
		checkNoPattern(t, "lists", list, impl.Type{}, p)
	}
	for _, p := range []impl.Pattern{
		intPat(-1, 3), intPat(3, 10), intPat(5, 4), intPat(10, 10), intPat(-1, -1), intPat(math.MinInt, math.MaxInt), intPat(math.MaxInt, math.MinInt), {Op: impl.PatInt, Ctor: -1}, {Op: impl.PatInt, Ctor: 1}, {Op: impl.PatInt, Var: 1}, {Op: impl.PatInt, Kids: []impl.Pattern{anyPat()}},
		nil0, ctorPat(-1), any2, orPat(nil0, anyPat()), orPat(anyPat(), intPat(1, 0)), asPat(0, intPat(1, 0)), asPat(0, varPat(0)),
	} {
		checkNoPattern(t, "numbers", list, intType, p)
	}
	for i, bad := range [][]impl.Pattern{{}, {ctorPat(1, anyPat()), ctorPat(0), ctorPat(3, ctorPat(0, anyPat()), anyPat(), anyPat())}, {ctorPat(0, anyPat()), ctorPat(2, anyPat(), anyPat())}, {ctorPat(0, anyPat()), ctorPat(1, anyPat()), ctorPat(2, anyPat(), anyPat())}} {
		for _, p := range bad {
			checkNoPattern(t, "an index that leaves a constructor out", mustWorld(t, exprWorld), impl.Type{Index: i}, p)
		}
	}
	empty := impl.Pattern{Op: impl.PatCtor, Kids: []impl.Pattern{}}
	if !impl.PatternValid(list, impl.Type{}, empty) || impl.FormatPattern(list, impl.Type{}, empty) != "Nil" || !impl.PatternSame(empty, nil0) {
		t.Error("no Kids and an empty slice of Kids are different")
	}
}

func TestPatternsAtTheLimits(t *testing.T) {
	list := mustWorld(t, listWorld)
	twice := func(n int, in, out string) string { return strings.Repeat(in, n) + "_" + strings.Repeat(out, n) }
	for _, c := range []struct {
		deep, deeper string
		add          func(p impl.Pattern) impl.Pattern
	}{
		{nested(10), nested(11), func(p impl.Pattern) impl.Pattern { return ctorPat(1, anyPat(), p) }},
		{twice(9, "Cons(_,", ")"), "a@" + twice(9, "Cons(_,", ")"), func(p impl.Pattern) impl.Pattern { return asPat(0, p) }},
		{"a@b@c@d@e@f@Cons(_,Cons(_,Cons(_,_)))", "(_|" + "a@b@c@d@e@f@Cons(_,Cons(_,Cons(_,_))))", func(p impl.Pattern) impl.Pattern { return orPat(anyPat(), p) }},
		{"a@b@c@d@e@f@Cons(0,Cons(0,Cons(0,Nil)))", "Cons(0,a@b@c@d@e@f@Cons(0,Cons(0,Cons(0,Nil))))", func(p impl.Pattern) impl.Pattern { return ctorPat(1, intPat(0, 0), p) }},
		{twice(9, "(", "|_)"), twice(10, "(", "|_)"), func(p impl.Pattern) impl.Pattern { return orPat(p, anyPat()) }},
		{twice(9, "(Nil|", ")"), twice(10, "(Nil|", ")"), func(p impl.Pattern) impl.Pattern { return orPat(ctorPat(0), p) }},
	} {
		p := mustPattern(t, list, impl.Type{}, c.deep)
		if !impl.PatternValid(list, impl.Type{}, p) || impl.FormatPattern(list, impl.Type{}, p) != c.deep || patternHeight(p) != 10 {
			t.Errorf("%s is not a pattern of depth 10", c.deep)
		}
		checkNoPattern(t, "depth 11", list, impl.Type{}, c.add(p))
		if p, ok := impl.ParsePattern(list, impl.Type{}, c.deeper); ok || !isZeroPattern(p) {
			t.Errorf("%s is a pattern", c.deeper)
		}
	}
	tri := mustWorld(t, cubeWorld)
	part := "Tri((0|1),((2|3)|(4|5)),_)" // 12 nodes
	four := "((" + part + "|" + part + ")|(" + part + "|" + part + "))"
	for _, text := range []string{"(" + four + "|Tri((0|1),(2|3),4))", "a@(" + four + "|((_|_)|(_|_)))"} {
		p := mustPattern(t, tri, impl.Type{}, text)
		if !impl.PatternValid(tri, impl.Type{}, p) || impl.FormatPattern(tri, impl.Type{}, p) != text || patternSize(p) != 60 {
			t.Errorf("%s is not a pattern with 60 nodes", text)
		}
		checkNoPattern(t, "61 nodes", tri, impl.Type{}, asPat(1, p))
		if p, ok := impl.ParsePattern(tri, impl.Type{}, "b@"+text); ok || !isZeroPattern(p) {
			t.Errorf("b@%s is a pattern", text)
		}
	}
}

func TestPatternVars(t *testing.T) {
	e := func(i int) impl.Type { return impl.Type{Index: i} }
	for _, c := range []struct {
		world string
		t     impl.Type
		text  string
		want  []impl.VarType
	}{
		{"", intType, "_", nil}, {"", intType, "3-5", nil}, {"", intType, "f", []impl.VarType{{Var: 5, Type: intType}}}, {"", intType, "(b|b)", []impl.VarType{{Var: 1, Type: intType}}}, {"", intType, "(b@a|a@b)", []impl.VarType{{Var: 1, Type: intType}, {Var: 0, Type: intType}}},
		{"", intType, "f@c@e@a@d@b", []impl.VarType{{Var: 5, Type: intType}, {Var: 2, Type: intType}, {Var: 4, Type: intType}, {Var: 0, Type: intType}, {Var: 3, Type: intType}, {Var: 1, Type: intType}}},
		{listWorld, e(2), "b@Cons(c,a)", []impl.VarType{{Var: 1, Type: e(2)}, {Var: 2, Type: intType}, {Var: 0, Type: e(0)}}},
		{listWorld, e(0), "Cons(_,(Cons(b,a)|Cons(_,Cons(b,a))))", []impl.VarType{{Var: 1, Type: intType}, {Var: 0, Type: e(0)}}},
		{optWorld, e(0), "(Pair(c,a)|Pair(a,c))", []impl.VarType{{Var: 2, Type: impl.Type{Data: 1}}, {Var: 0, Type: impl.Type{Data: 1}}}},
		{exprWorld, e(1), "If(a,c@Num(e),b)", []impl.VarType{{Var: 0, Type: e(2)}, {Var: 2, Type: e(1)}, {Var: 4, Type: intType}, {Var: 1, Type: e(1)}}},
		{exprWorld, e(0), "If(Bol(c),b,a)", []impl.VarType{{Var: 2, Type: impl.Type{Data: 1}}, {Var: 1, Type: e(0)}, {Var: 0, Type: e(0)}}},
	} {
		w, _ := impl.ParseWorld(c.world)
		if got := impl.PatternVars(w, c.t, mustPattern(t, w, c.t, c.text)); !slices.Equal(got, c.want) {
			t.Errorf("PatternVars(%s) = %v, not %v", c.text, got, c.want)
		}
	}
}

func TestMatchPattern(t *testing.T) {
	e := func(i int) impl.Type { return impl.Type{Index: i} }
	for _, c := range []struct {
		world string
		t     impl.Type
		p, v  string
		want  string // "no" if the value does not match
	}{
		{"", intType, "_", "0", ""}, {"", intType, "c", "9", "c=9"}, {"", intType, "3", "3", ""}, {"", intType, "3", "2", "no"}, {"", intType, "3", "4", "no"}, {"", intType, "2-5", "1", "no"}, {"", intType, "2-5", "2", ""}, {"", intType, "2-5", "4", ""}, {"", intType, "2-5", "5", ""}, {"", intType, "2-5", "6", "no"},
		{"", intType, "0", "0", ""}, {"", intType, "9", "9", ""}, {"", intType, "0-9", "0", ""}, {"", intType, "0-9", "9", ""}, {"", intType, "b@a@1-3", "2", "a=2 b=2"}, {"", intType, "b@1-3", "4", "no"}, {"", intType, "(1|3)", "2", "no"}, {"", intType, "(1|3)", "1", ""}, {"", intType, "(1|3)", "3", ""}, {"", intType, "(a@1|a@3)", "3", "a=3"},
		{listWorld, e(0), "a@Cons((5|7),b)", "Cons(7,Nil)", "a=Cons(7,Nil) b=Nil"}, {listWorld, e(0), "a@Cons((5|7),b)", "Cons(5,Cons(1,Nil))", "a=Cons(5,Cons(1,Nil)) b=Cons(1,Nil)"}, {listWorld, e(0), "a@Cons((5|7),b)", "Cons(6,Nil)", "no"}, {listWorld, e(0), "a@Cons((5|7),b)", "Nil", "no"},
		{listWorld, e(0), "Nil", "Nil", ""}, {listWorld, e(0), "Nil", "Cons(0,Nil)", "no"}, {listWorld, e(0), "Cons(_,_)", "Nil", "no"}, {listWorld, e(0), "Cons(b,a)", "Cons(4,Nil)", "a=Nil b=4"}, {listWorld, e(0), "Cons(3,Nil)", "Cons(3,Cons(3,Nil))", "no"}, {listWorld, e(0), "Cons(3,Cons(_,a))", "Cons(3,Cons(2,Nil))", "a=Nil"},
		// The first part that matches decides, also inside of others.
		{listWorld, e(0), "(Cons(a,Cons(_,_))|Cons(_,Cons(a,_)))", "Cons(1,Cons(2,Nil))", "a=1"}, {listWorld, e(0), "(Cons(2-4,a)|Cons(_,Cons(9,a)))", "Cons(3,Cons(9,Nil))", "a=Cons(9,Nil)"}, {listWorld, e(0), "(Cons(2-4,a)|Cons(_,Cons(9,a)))", "Cons(5,Cons(9,Nil))", "a=Nil"}, {listWorld, e(0), "(Cons(2-4,a)|Cons(_,Cons(9,a)))", "Cons(5,Cons(8,Nil))", "no"},
		{listWorld, e(0), "((Nil|Cons(1,_))|(Cons(2,_)|Cons(3,Nil)))", "Cons(3,Nil)", ""}, {listWorld, e(0), "((Nil|Cons(1,_))|(Cons(2,_)|Cons(3,Nil)))", "Cons(4,Nil)", "no"}, {listWorld, e(0), "(a@(b|b@Nil)|b@a)", "Nil", "a=Nil b=Nil"},
		{optWorld, e(0), "(Pair(a,b)|Pair(b,a))", "Pair(Non,Som(1))", "a=Non b=Som(1)"}, {optWorld, e(0), "(Pair(a@Som(_),b)|Pair(b,a))", "Pair(Non,Som(1))", "a=Som(1) b=Non"}, {optWorld, e(0), "(Pair(b@Som(_),a)|Pair(a,b@Non))", "Pair(Non,Som(1))", "no"},
		{optWorld, e(0), "Pair((a@Som(1)|a@Non),(b@Som(2)|b@Non))", "Pair(Non,Som(2))", "a=Non b=Som(2)"}, {optWorld, e(0), "Pair((a@Som(1)|a@Non),(b@Som(2)|b@Non))", "Pair(Som(2),Non)", "no"}, {optWorld, e(0), "f@Pair(d@Som(e),c@Som(a@b))", "Pair(Som(7),Som(8))", "a=8 b=8 c=Som(8) d=Som(7) e=7 f=Pair(Som(7),Som(8))"},
		// A part that fails late takes back what its variables stand for.
		{optWorld, e(0), "(Pair(Som(a),Non)|Pair(_,Som(a)))", "Pair(Som(1),Som(2))", "a=2"}, {optWorld, e(0), "(a@Pair(_,Non)|a@_)", "Pair(Non,Som(2))", "a=Pair(Non,Som(2))"},
		{exprWorld, e(1), "If(Bol(a),b,_)", "If(Bol(Fls),Num(1),Num(2))", "a=Fls b=Num(1)"}, {exprWorld, e(0), "(Num(_)|Bol(_))", "Bol(Tru)", ""}, {exprWorld, e(0), "(Num(_)|Bol(_))", "Add(Num(1),Num(1))", "no"}, {exprWorld, e(0), "If(_,Num(_),Bol(_))", "If(Bol(Tru),Num(1),Bol(Tru))", ""},
	} {
		w, _ := impl.ParseWorld(c.world)
		p, v := mustPattern(t, w, c.t, c.p), mustValue(t, w, c.t, c.v)
		binds, ok := impl.MatchPattern(w, c.t, p, v)
		if got := bindText(w, c.t, p, binds); ok != (c.want != "no") || ok && got != c.want || !ok && len(binds) != 0 {
			t.Errorf("MatchPattern(%s, %s) = %s, %v, not %s", c.p, c.v, got, ok, c.want)
		}
	}
}

func TestMatchPatternRejects(t *testing.T) {
	list, expr := mustWorld(t, listWorld), mustWorld(t, exprWorld)
	deep := made(1, number(0), mustValue(t, list, impl.Type{}, nested(10)))
	for _, c := range []struct {
		w []impl.Data
		t impl.Type
		p impl.Pattern
		v impl.Value
	}{
		{list, intType, anyPat(), number(10)}, {list, intType, varPat(0), number(-1)}, {list, intType, anyPat(), made(0)}, {list, impl.Type{}, anyPat(), number(0)}, {list, impl.Type{}, varPat(0), made(2)}, {list, impl.Type{}, anyPat(), made(1)}, {list, impl.Type{}, anyPat(), impl.Value{N: 1}},
		{list, impl.Type{}, ctorPat(1, anyPat(), anyPat()), made(1, made(0), made(0))}, {list, impl.Type{}, ctorPat(0), made(0, number(1))}, {list, impl.Type{}, ctorPat(1, varPat(0), varPat(1)), made(1, number(10), made(0))}, {list, impl.Type{}, varPat(0), deep}, {list, impl.Type{}, asPat(0, anyPat()), deep},
		{expr, impl.Type{Index: 1}, anyPat(), made(1, made(0))}, {expr, impl.Type{Index: 2}, varPat(0), made(0, number(0))}, {expr, impl.Type{Index: 3}, anyPat(), made(0, number(0))},
	} {
		if b, ok := impl.MatchPattern(c.w, c.t, c.p, c.v); ok || len(b) != 0 {
			t.Errorf("MatchPattern(%v, %v, %v) = %v, %v", c.t, c.p, c.v, b, ok)
		}
	}
}

func TestPatternOf(t *testing.T) {
	list, expr := mustWorld(t, listWorld), mustWorld(t, exprWorld)
	for _, c := range []struct {
		w    []impl.Data
		t    impl.Type
		text string
	}{
		{nil, intType, "0"}, {list, intType, "9"}, {list, impl.Type{}, "Nil"}, {list, impl.Type{Index: 2}, "Cons(4,Cons(0,Nil))"}, {list, impl.Type{}, nested(10)}, {expr, impl.Type{Index: 1}, "If(Bol(Fls),Num(7),Add(Num(0),Num(1)))"}, {expr, impl.Type{}, "If(Bol(Fls),Num(7),Bol(Tru))"},
	} {
		v := mustValue(t, c.w, c.t, c.text)
		p, ok := impl.PatternOf(c.w, c.t, v)
		if got := impl.FormatPattern(c.w, c.t, p); !ok || got != c.text {
			t.Errorf("PatternOf(%s) = %q, %v", c.text, got, ok)
		}
	}
	for _, v := range []impl.Value{number(0), {Ctor: 2}, {N: 1}, made(1), made(1, number(10), made(0)), made(1, number(0), mustValue(t, list, impl.Type{}, nested(10)))} {
		if p, ok := impl.PatternOf(list, impl.Type{}, v); ok || !isZeroPattern(p) {
			t.Errorf("PatternOf(%v) = %v, %v", v, p, ok)
		}
	}
	if p, ok := impl.PatternOf(expr, impl.Type{Index: 1}, made(1, made(0))); ok || !isZeroPattern(p) {
		t.Errorf("PatternOf = %v, %v", p, ok)
	}
	w := mustWorld(t, sizeWorld)
	many, _ := impl.LeastValue(w, impl.Type{Data: 2})
	if p, ok := impl.PatternOf(w, impl.Type{Data: 2}, many); !ok || patternSize(p) != 60 {
		t.Errorf("PatternOf a value with 60 nodes = %v, %v", p, ok)
	}
}

func TestSplitOr(t *testing.T) {
	for _, c := range []struct {
		world string
		text  string
		want  string
	}{
		{listWorld, "_", "_"}, {listWorld, "a", "a"}, {listWorld, "Nil", "Nil"}, {listWorld, "Cons(2-5,b)", "Cons(2-5,b)"}, {listWorld, "(Nil|_)", "Nil _"}, {listWorld, "(_|Nil)", "_ Nil"}, {listWorld, "(_|_)", "_ _"}, {listWorld, "(Nil|Cons((1|2),(Nil|_)))", "Nil Cons(1,Nil) Cons(1,_) Cons(2,Nil) Cons(2,_)"},
		{listWorld, "((Nil|a@_)|(b@_|_))", "none"}, {listWorld, "((Nil|Cons(1,_))|(Cons(2,_)|Cons(3,_)))", "Nil Cons(1,_) Cons(2,_) Cons(3,_)"}, {listWorld, "a@(Nil|b@(Cons(_,_)|_))", "none"}, {listWorld, "a@(b@Nil|b@(Cons(_,_)|_))", "a@b@Nil a@b@Cons(_,_) a@b@_"},
		{listWorld, "Cons((1|(2|3)),Cons((4|5),_))", "Cons(1,Cons(4,_)) Cons(1,Cons(5,_)) Cons(2,Cons(4,_)) Cons(2,Cons(5,_)) Cons(3,Cons(4,_)) Cons(3,Cons(5,_))"}, {listWorld, "(Cons(a,(Nil|_))|Cons(_,Cons(a,_)))", "Cons(a,Nil) Cons(a,_) Cons(_,Cons(a,_))"},
		{optWorld, "(Pair(a,b)|Pair(b,a))", "Pair(a,b) Pair(b,a)"}, {optWorld, "Pair(_,(Non|Som((1|2))))", "Pair(_,Non) Pair(_,Som(1)) Pair(_,Som(2))"}, {cubeWorld, "Tri((0|1),(2|3),(4|5))", "Tri(0,2,4) Tri(0,2,5) Tri(0,3,4) Tri(0,3,5) Tri(1,2,4) Tri(1,2,5) Tri(1,3,4) Tri(1,3,5)"},
		{cubeWorld, "(End|Tri((0|1),_,(_|_)))", "End Tri(0,_,_) Tri(0,_,_) Tri(1,_,_) Tri(1,_,_)"},
	} {
		w := mustWorld(t, c.world)
		p, isPattern := impl.ParsePattern(w, impl.Type{}, c.text)
		list, ok := impl.SplitOr(w, impl.Type{}, p)
		if got := listText(w, impl.Type{}, list); ok != isPattern || ok != (c.want != "none") || ok && got != c.want || sharePatterns(append(list, p)) {
			t.Errorf("SplitOr(%s) = %s, %v, not %s", c.text, got, ok, c.want)
		}
	}
}

// spread is the text of a pattern with these alternatives.
func spread(texts []string) string {
	if len(texts) == 1 {
		return texts[0]
	}
	half := len(texts) / 2
	return "(" + spread(texts[:half]) + "|" + spread(texts[half:]) + ")"
}

// cube is the text of a pattern with so many numbers for each of the three Kids.
func cube(a, b, c int) string {
	digits := strings.Split("0123456789", "")
	return "Tri(" + spread(digits[:a]) + "," + spread(digits[:b]) + "," + spread(digits[:c]) + ")"
}

func TestSplitOrAtTheLimit(t *testing.T) {
	w := mustWorld(t, cubeWorld)
	for text, want := range map[string]int{
		cube(8, 10, 5): 400, cube(10, 10, 4): 400, cube(5, 8, 10): 400, "a@" + cube(8, 10, 5): 400, "(" + cube(8, 10, 5) + "|End)": 401, "(End|" + cube(8, 10, 5) + ")": 401, "(" + cube(7, 7, 8) + "|(_|End))": 394, "(" + cube(5, 8, 5) + "|" + cube(2, 4, 2) + ")": 216,
		"((End|" + cube(7, 7, 8) + ")|((_|_)|((End|End)|_)))": 398, cube(9, 9, 5): 405, cube(5, 9, 9): 405, cube(10, 10, 9): 900, cube(4, 10, 10): 400, cube(3, 10, 10): 300, "(" + cube(7, 7, 8) + "|" + spread(strings.Fields("_ _ _ _ _ _ _")) + ")": 399, "(" + spread(strings.Fields("_ _ _ _ _ _ _")) + "|" + cube(7, 7, 8) + ")": 399,
		"(" + cube(7, 7, 8) + "|" + spread(strings.Fields("_ _ _ _ _ _ _ _")) + ")": 400, "(" + cube(7, 7, 8) + "|" + spread(strings.Fields("_ _ _ _ _ _ _ _ _")) + ")": 401, "(" + spread(strings.Fields("_ _ _ _ _ _ _ _ _")) + "|" + cube(7, 7, 8) + ")": 401,
	} {
		p := mustPattern(t, w, impl.Type{}, text)
		list, ok := impl.SplitOr(w, impl.Type{}, p)
		if ok != (want <= 400) || ok && len(list) != want || !ok && len(list) != 0 || len(chosen(p, nil)) != min(want, 500) {
			t.Errorf("SplitOr(%s): %d, %v, not %d", text, len(list), ok, want)
		}
		if ok && (!slices.EqualFunc(list, chosen(p, nil), equalPatterns) || sharePatterns(append(list, p))) {
			t.Errorf("SplitOr(%s) returns other patterns, or shares memory", text)
		}
	}
	// Far more choices than can be listed, of which each list on the way is short.
	v := mustWorld(t, "T=Tri(T,T,T)|End")
	row := "Tri(((End|_)|_),((End|_)|_),((End|_)|_))"
	text := "Tri(" + row + "," + row + "," + row + ")"
	if list, ok := impl.SplitOr(v, impl.Type{}, mustPattern(t, v, impl.Type{}, text)); ok || len(list) != 0 {
		t.Errorf("SplitOr(%s): %d, %v", text, len(list), ok)
	}
}

func TestPatternSame(t *testing.T) {
	different := []impl.Pattern{
		{}, anyPat(), varPat(0), varPat(1), {Op: impl.PatAny, Var: 1}, {Op: -7}, {Op: math.MaxInt}, intPat(0, 0), intPat(0, 1), intPat(1, 1), intPat(-1, math.MaxInt), {Op: impl.PatInt, Ctor: 1}, ctorPat(0), ctorPat(1), ctorPat(-1), ctorPat(1, anyPat()), ctorPat(1, anyPat(), anyPat()), ctorPat(1, anyPat(), varPat(0)), ctorPat(1, varPat(0), anyPat()),
		orPat(), orPat(anyPat()), orPat(anyPat(), ctorPat(0)), orPat(ctorPat(0), anyPat()), asPat(0, anyPat()), asPat(1, anyPat()), asPat(0, varPat(1)), asPat(0), {Op: impl.PatAny, Kids: []impl.Pattern{anyPat()}}, ctorPat(1, ctorPat(1, ctorPat(0), ctorPat(0)), ctorPat(1)), ctorPat(1, ctorPat(1, ctorPat(0), ctorPat(1)), ctorPat(1)), ctorPat(1, ctorPat(1, ctorPat(0)), ctorPat(0), ctorPat(1)), {Kids: []impl.Pattern{{}}}, {Kids: []impl.Pattern{{}, {}}},
	}
	var copyOf func(p impl.Pattern) impl.Pattern
	copyOf = func(p impl.Pattern) impl.Pattern {
		kids := []impl.Pattern{}
		for _, kid := range p.Kids {
			kids = append(kids, copyOf(kid))
		}
		p.Kids = kids
		return p
	}
	for i, a := range different {
		for j, b := range different {
			if impl.PatternSame(a, copyOf(b)) != (i == j) || impl.PatternSame(a, b) != (i == j) {
				t.Errorf("PatternSame(%v, %v) = %v", a, b, i != j)
			}
		}
	}
}

func TestHugePatterns(t *testing.T) {
	chain := func(levels int, end impl.Pattern) impl.Pattern {
		for range levels {
			end = ctorPat(1, anyPat(), end)
		}
		return end
	}
	const levels = 300000
	a, b := chain(levels, ctorPat(0)), chain(levels, ctorPat(0))
	if !impl.PatternSame(a, b) || impl.PatternSame(a, chain(levels, ctorPat(1))) || impl.PatternSame(a, chain(levels-1, ctorPat(0))) || impl.PatternSame(chain(levels-1, ctorPat(0)), a) {
		t.Error("deep patterns are compared in a wrong way")
	}
	// Patterns whose nodes are too many to be visited one by one.
	shared := func(end impl.Pattern, op int) impl.Pattern {
		for range 100 {
			end = impl.Pattern{Op: op, Kids: []impl.Pattern{end, end}}
		}
		return end
	}
	c, d := shared(anyPat(), impl.PatOr), shared(anyPat(), impl.PatOr)
	if !impl.PatternSame(c, d) || !impl.PatternSame(c, c) || impl.PatternSame(c, shared(varPat(0), impl.PatOr)) || impl.PatternSame(shared(orPat(anyPat()), impl.PatOr), c) {
		t.Error("patterns with shared parts are compared in a wrong way")
	}
	w := mustWorld(t, "L=Cons(L,L)|Nil")
	for _, p := range []impl.Pattern{a, c, shared(anyPat(), impl.PatCtor), shared(varPat(0), impl.PatCtor), shared(varPat(0), impl.PatOr), ctorPat(1, make([]impl.Pattern, 1000000)...)} {
		if impl.PatternValid(w, impl.Type{}, p) || impl.FormatPattern(w, impl.Type{}, p) != "" || len(impl.PatternVars(w, impl.Type{}, p)) != 0 {
			t.Error("a huge pattern is valid")
		}
		if list, ok := impl.SplitOr(w, impl.Type{}, p); ok || len(list) != 0 {
			t.Error("a huge pattern is split")
		}
		if binds, ok := impl.MatchPattern(w, impl.Type{}, p, made(1)); ok || len(binds) != 0 {
			t.Error("a huge pattern is matched")
		}
	}
	value := made(1)
	for range 100 {
		value = made(0, value, value)
	}
	if binds, ok := impl.MatchPattern(w, impl.Type{}, anyPat(), value); ok || len(binds) != 0 {
		t.Error("a huge value matches")
	}
	if p, ok := impl.PatternOf(w, impl.Type{}, value); ok || !isZeroPattern(p) {
		t.Error("a huge value has a pattern")
	}
}

// loop is a PatOr of itself and another pattern.
func loop(end impl.Pattern) impl.Pattern {
	kids := make([]impl.Pattern, 2)
	kids[1] = end
	kids[0] = orPat(kids...)
	kids[0].Kids = kids
	return kids[0]
}

func TestPatternsInsideOfThemselves(t *testing.T) {
	a, b := loop(anyPat()), loop(anyPat())
	if !impl.PatternSame(a, b) || !impl.PatternSame(a, a) || impl.PatternSame(a, loop(varPat(0))) || impl.PatternSame(a, a.Kids[1]) {
		t.Error("patterns inside of themselves are compared in a wrong way")
	}
	w := mustWorld(t, listWorld)
	if impl.PatternValid(w, impl.Type{}, a) || impl.FormatPattern(w, impl.Type{}, a) != "" {
		t.Error("a pattern inside of itself is valid")
	}
}

func TestRandomPatternsAreReadBack(t *testing.T) {
	r := rand.New(rand.NewPCG(9, 9))
	valid, large, others := 0, 0, 0
	for range 20000 {
		w := randomWorld(r)
		ty := randomType(r, w)
		p := randomPattern(r, w, ty, 1+r.IntN(10), []int{0, 1, 2, 3, 4, 5}[r.IntN(6):])
		if r.IntN(2) == 0 {
			p = changedPattern(r, p)
		}
		vars, is := variables(w, ty, p)
		fits := patternSize(p) <= 60 && patternHeight(p) <= 10
		text := impl.FormatPattern(w, ty, p)
		if impl.PatternValid(w, ty, p) != (is && fits) || (text != "") != (is && fits) {
			t.Fatalf("%q, %v: %v is valid, or is not; its text is %q", impl.FormatWorld(w), ty, p, text)
		}
		list := impl.PatternVars(w, ty, p)
		if !is || !fits {
			if len(list) > 0 {
				t.Fatalf("%q, %v: PatternVars(%v) = %v", impl.FormatWorld(w), ty, p, list)
			}
			if is {
				large++
			} else {
				others++
			}
			continue
		}
		back, ok := impl.ParsePattern(w, ty, text)
		if !ok || !equalPatterns(back, p) || !impl.PatternSame(back, p) || sharePatterns([]impl.Pattern{back, p}) {
			t.Fatalf("%v has the text %q, which is read as %v, %v", p, text, back, ok)
		}
		if !inTextOrder(text, list, vars) {
			t.Fatalf("PatternVars(%s) = %v", text, list)
		}
		valid++
	}
	if valid < 5000 || large < 20 || others < 2000 {
		t.Errorf("only %d valid patterns, %d that are too large, and %d others", valid, large, others)
	}
}

// inTextOrder reports whether the list has these variables with their types, each once, in the order of the text.
func inTextOrder(text string, list []impl.VarType, vars map[int]impl.Type) bool {
	from := -1
	for _, v := range list {
		at := strings.IndexFunc(text, func(c rune) bool { return c == rune('a'+v.Var) })
		// A letter behind another one is a part of a name.
		for i := range text {
			if text[i] == byte('a'+v.Var) && (i == 0 || !strings.ContainsAny(text[i-1:i], "ABCDEFGHIJKLMNOPQRSTUVWXYZabcdefghijklmnopqrstuvwxyz")) {
				at = i
				break
			}
		}
		if ty, ok := vars[v.Var]; !ok || ty != v.Type || at <= from {
			return false
		}
		from = at
	}
	return len(list) == len(vars)
}

func TestRandomPatternsAreMatchedAsSplit(t *testing.T) {
	r := rand.New(rand.NewPCG(10, 10))
	split, fit, late, bound := 0, 0, 0, 0
	for range 20000 {
		w := randomWorld(r)
		ty := randomType(r, w)
		p := randomPattern(r, w, ty, 1+r.IntN(7), []int{0, 1, 2, 3, 4, 5}[r.IntN(6):])
		if !impl.PatternValid(w, ty, p) {
			continue
		}
		all := chosen(p, nil)
		list, ok := impl.SplitOr(w, ty, p)
		if ok != (len(all) <= 400) || ok && !slices.EqualFunc(list, all, equalPatterns) || !ok && len(list) != 0 || sharePatterns(append(list, p)) {
			t.Fatalf("SplitOr(%s) = %v, %v", impl.FormatPattern(w, ty, p), list, ok)
		}
		for _, one := range list {
			if len(list) < 50 && !impl.PatternValid(w, ty, one) {
				t.Fatalf("SplitOr(%s) returns %v", impl.FormatPattern(w, ty, p), one)
			}
		}
		if len(list) > 1 {
			split++
		}
		v, made := instance(r, w, ty, p)
		if r.IntN(3) == 0 {
			v, made = randomValue(r, w, ty, 3)
		}
		if !made || !ok || !impl.ValueValid(w, ty, v) {
			continue
		}
		first, want := firstMatch(all, v)
		binds, ok := impl.MatchPattern(w, ty, p, v)
		ascending := slices.IsSortedFunc(binds, func(a, b impl.Bind) int { return a.Var - b.Var })
		if ok != (first >= 0) || len(binds) != len(want) || !ascending || !equalBinds(mapOf(binds), want) {
			t.Fatalf("%q, %v: MatchPattern(%s, %v) = %v, %v, not %v", impl.FormatWorld(w), ty, impl.FormatPattern(w, ty, p), v, binds, ok, want)
		}
		values := []impl.Value{v}
		for _, b := range binds {
			values = append(values, b.Value)
		}
		if shareMemory(values) {
			t.Fatalf("MatchPattern(%s, %v) shares memory", impl.FormatPattern(w, ty, p), v)
		}
		if first >= 0 {
			fit++
		}
		if first > 0 {
			late++
		}
		if len(binds) > 1 {
			bound++
		}
	}
	if split < 2000 || fit < 5000 || late < 200 || bound < 1000 {
		t.Errorf("only %d patterns with alternatives, %d that match, %d by a later part, %d with variables", split, fit, late, bound)
	}
}

// firstMatch is the place of the first pattern that a value matches, and what its variables stand for.
func firstMatch(list []impl.Pattern, v impl.Value) (int, map[int]impl.Value) {
	for i, p := range list {
		binds := map[int]impl.Value{}
		if matches(p, v, binds) {
			return i, binds
		}
	}
	return -1, nil
}

func TestPatternsOfRandomValues(t *testing.T) {
	r := rand.New(rand.NewPCG(11, 11))
	equal := 0
	for range 5000 {
		w := randomWorld(r)
		ty := randomType(r, w)
		v, ok := randomValue(r, w, ty, 4)
		other, has := randomValue(r, w, ty, 2)
		if !ok || !has || !impl.ValueValid(w, ty, v) {
			continue
		}
		p, ok := impl.PatternOf(w, ty, v)
		if !ok || impl.FormatPattern(w, ty, p) != impl.FormatValue(w, ty, v) || sharePatterns([]impl.Pattern{p}) {
			t.Fatalf("PatternOf(%v) = %v, %v", v, p, ok)
		}
		if b, ok := impl.MatchPattern(w, ty, p, v); !ok || len(b) != 0 {
			t.Fatalf("%v does not match its pattern", v)
		}
		same := compared(v, other) == 0
		if _, ok := impl.MatchPattern(w, ty, p, other); ok != same {
			t.Fatalf("%v matches the pattern of %v, or does not", other, v)
		}
		if same {
			equal++
		}
	}
	if equal < 100 {
		t.Errorf("only %d values are equal", equal)
	}
}

// textVars are the variables in a text with their types, and false if it is not the text of a pattern of any size.
func textVars(w []impl.Data, t impl.Type, text string) (map[int]impl.Type, bool) {
	isDigit := func(s string) bool { return len(s) == 1 && s >= "0" && s <= "9" }
	isVar := func(s string) bool { return len(s) == 1 && s >= "a" && s <= "f" }
	low, high, isRange := strings.Cut(text, "-")
	switch {
	case text == "_":
		return nil, true
	case isVar(text):
		return map[int]impl.Type{int(text[0] - 'a'): t}, true
	case isDigit(text):
		return nil, t == intType
	case isRange && isDigit(low) && isDigit(high):
		return nil, t == intType && low < high
	case len(text) > 2 && isVar(text[:1]) && text[1] == '@':
		vars, ok := textVars(w, t, text[2:])
		return joined(ok, vars, map[int]impl.Type{int(text[0] - 'a'): t})
	case strings.HasPrefix(text, "("):
		_, parts, ok := readTree(barsAsCommas(text))
		if !ok || len(parts) != 2 || strings.Count(barsAsCommas(text), ",") != strings.Count(text, ",")+1 || parts[0]+"|"+parts[1] != text[1:len(text)-1] {
			return nil, false
		}
		first, isFirst := textVars(w, t, parts[0])
		second, isSecond := textVars(w, t, parts[1])
		return first, isFirst && isSecond && maps.Equal(first, second)
	}
	if t == intType {
		return nil, false
	}
	name, parts, ok := readTree(text)
	place := slices.IndexFunc(w[t.Data].Ctors, func(c impl.Ctor) bool { return c.Name == name })
	types, has := kidTypes(w, t, place)
	if !ok || !has || len(types) != len(parts) {
		return nil, false
	}
	lists := []map[int]impl.Type{}
	for i, part := range parts {
		vars, isPart := textVars(w, types[i], part)
		lists, ok = append(lists, vars), ok && isPart
	}
	return joined(ok, lists...)
}

// barsAsCommas is a text with a comma in place of each bar that is in one pair of parentheses only.
func barsAsCommas(text string) string {
	bytes, depth := []byte(text), 0
	for i, b := range bytes {
		switch {
		case b == '(':
			depth++
		case b == ')':
			depth--
		case b == '|' && depth == 1:
			bytes[i] = ','
		}
	}
	return string(bytes)
}

// joined are the variables of all lists, if none stands twice.
func joined(ok bool, lists ...map[int]impl.Type) (map[int]impl.Type, bool) {
	all := map[int]impl.Type{}
	for _, list := range lists {
		for v, ty := range list {
			if _, met := all[v]; met {
				return nil, false
			}
			all[v] = ty
		}
	}
	return all, ok
}

func TestChangedPatternTexts(t *testing.T) {
	r := rand.New(rand.NewPCG(12, 12))
	valid, others := 0, 0
	for range 60000 {
		w := randomWorld(r)
		ty := randomType(r, w)
		p := randomPattern(r, w, ty, 5, []int{0, 1, 2, 3, 4, 5}[r.IntN(6):])
		text := []byte(impl.FormatPattern(w, ty, p))
		if len(text) == 0 {
			continue
		}
		if r.IntN(4) > 0 {
			text = changedText(r, text, "ABCabcdefgz0123459(((|)),,--@@__  x\x00\xff")
		} else {
			ty = randomType(r, w)
		}
		back, ok := impl.ParsePattern(w, ty, string(text))
		_, is := textVars(w, ty, string(text))
		if ok != is && (ok || len(text) < 60) || ok && impl.FormatPattern(w, ty, back) != string(text) || !ok && !isZeroPattern(back) {
			t.Fatalf("ParsePattern(%q, %v, %q) = %v, %v", impl.FormatWorld(w), ty, text, back, ok)
		}
		if ok {
			valid++
		} else {
			others++
		}
	}
	if valid < 3000 || others < 10000 {
		t.Errorf("only %d texts are valid, and %d are not", valid, others)
	}
}

func TestPatternsLeaveArguments(t *testing.T) {
	w := mustWorld(t, optWorld)
	text := "f@Pair((a@Som(b@(1|2))|a@Som(b)),(Non|Som(_)))"
	p := mustPattern(t, w, impl.Type{}, text)
	spare := append(slices.Clone(p.Kids), varPat(5))
	p.Kids = spare[:1]
	v := mustValue(t, w, impl.Type{}, "Pair(Som(1),Som(2))")
	values := append(slices.Clone(v.Kids), number(7))
	v.Kids = values[:2]
	impl.PatternValid(w, impl.Type{}, p)
	impl.PatternVars(w, impl.Type{}, p)
	impl.FormatPattern(w, impl.Type{}, p)
	impl.PatternSame(p, p)
	list, _ := impl.SplitOr(w, impl.Type{}, p)
	binds, _ := impl.MatchPattern(w, impl.Type{}, p, v)
	made, _ := impl.PatternOf(w, impl.Type{}, v)
	// What is written into results is not seen in arguments.
	for _, one := range append(list, made) {
		one.Kids[0].Op = 99
		_ = append(one.Kids, anyPat())
	}
	for _, b := range binds {
		for i := range b.Value.Kids {
			b.Value.Kids[i].N = 99
		}
		_ = append(b.Value.Kids, number(99))
	}
	if impl.FormatPattern(w, impl.Type{}, p) != text || spare[1].Var != 5 || impl.FormatWorld(w) != optWorld {
		t.Errorf("arguments are changed: %v", spare)
	}
	if impl.FormatValue(w, impl.Type{}, v) != "Pair(Som(1),Som(2))" || values[2].N != 7 || len(list) != 6 || len(binds) != 3 {
		t.Errorf("arguments are changed: %v; %v, %v", values, list, binds)
	}
}
