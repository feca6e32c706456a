package tests

import (
	"math"
	"math/rand/v2"
	"slices"
	"strings"
	"testing"

	"loop.example/matchcompiler/impl"
)

// A world with types whose least values have 4, 13, 40, 6 and 7 nodes, and with which 60 and 61 are reached.
const sizeWorld = "T=Ta(I,I,I):1|Tb(T1,T1,T1):2|Tc(T2,T2,T2):3;S=Six(I,T1):1|Sev(I,I,T1):2;M=Mk(T3,T2,S1);N=Mn(T3,T2,S2)"

func number(n int) impl.Value { return impl.Value{Ctor: impl.CtorInt, N: n} }

func made(ctor int, kids ...impl.Value) impl.Value { return impl.Value{Ctor: ctor, Kids: kids} }

func mustValue(t *testing.T, w []impl.Data, ty impl.Type, text string) impl.Value {
	t.Helper()
	v, ok := impl.ParseValue(w, ty, text)
	if !ok {
		t.Fatalf("ParseValue(%v, %q) fails", ty, text)
	}
	return v
}

// nested is a list with count elements, of which the last one is Nil.
func nested(count int) string {
	return strings.Repeat("Cons(0,", count-1) + "Nil" + strings.Repeat(")", count-1)
}

func isZero(v impl.Value) bool { return v.Ctor == 0 && v.N == 0 && len(v.Kids) == 0 }

// kidTypes are the types of the arguments of a constructor for values of a type, straight from the definition.
func kidTypes(w []impl.Data, t impl.Type, ctor int) ([]impl.Type, bool) {
	if t.Data == impl.DataInt || ctor < 0 || ctor >= len(w[t.Data].Ctors) {
		return nil, false
	}
	c := w[t.Data].Ctors[ctor]
	if c.Index != 0 && t.Index != 0 && c.Index != t.Index {
		return nil, false
	}
	kids := slices.Clone(c.Args)
	for i, a := range kids {
		if a.Index == impl.IndexSame {
			kids[i].Index = max(c.Index, t.Index)
		}
	}
	return kids, true
}

// isValue reports, straight from the definition, whether v is a value of a valid type, of any size.
func isValue(w []impl.Data, t impl.Type, v impl.Value) bool {
	if t.Data == impl.DataInt {
		return v.Ctor == -1 && v.N >= 0 && v.N <= 9 && len(v.Kids) == 0
	}
	types, ok := kidTypes(w, t, v.Ctor)
	ok = ok && v.N == 0 && len(types) == len(v.Kids)
	for i := 0; ok && i < len(types); i++ {
		ok = isValue(w, types[i], v.Kids[i])
	}
	return ok
}

func sizeOf(v impl.Value) int {
	size := 1
	for _, kid := range v.Kids {
		size += sizeOf(kid)
	}
	return size
}

func heightOf(v impl.Value) int {
	height := 0
	for _, kid := range v.Kids {
		height = max(height, heightOf(kid))
	}
	return height + 1
}

// compared compares values by the rules of their order, one after the other.
func compared(a, b impl.Value) int {
	sign := func(x, y int) int {
		if x < y {
			return -1
		}
		return 1
	}
	if a.Ctor != b.Ctor {
		return sign(a.Ctor, b.Ctor)
	}
	if a.N != b.N {
		return sign(a.N, b.N)
	}
	for i := 0; i < len(a.Kids) && i < len(b.Kids); i++ {
		if c := compared(a.Kids[i], b.Kids[i]); c != 0 {
			return c
		}
	}
	if len(a.Kids) != len(b.Kids) {
		return sign(len(a.Kids), len(b.Kids))
	}
	return 0
}

// countWithin is the number of values of a type up to a depth, where all numbers above 1000 count as 1000.
func countWithin(w []impl.Data, t impl.Type, depth int, known map[[3]int]int) int {
	if depth == 0 {
		return 0
	}
	if t.Data == impl.DataInt {
		return 10
	}
	key := [3]int{t.Data, t.Index, depth}
	if n, ok := known[key]; ok {
		return n
	}
	sum := 0
	for c := range w[t.Data].Ctors {
		types, ok := kidTypes(w, t, c)
		if !ok {
			continue
		}
		product := 1
		for _, arg := range types {
			product = min(1000, product*countWithin(w, arg, depth-1, known))
		}
		sum = min(1000, sum+product)
	}
	known[key] = sum
	return sum
}

// randomValue is a value of a type, and mostly not much deeper than depth.
func randomValue(r *rand.Rand, w []impl.Data, t impl.Type, depth int) (impl.Value, bool) {
	if t.Data == impl.DataInt {
		return number(r.IntN(10)), true
	}
	isEmpty := func(arg impl.Type) bool { return !impl.Inhabited(w, arg) }
	var ctors []int
	for c := range w[t.Data].Ctors {
		if types, ok := kidTypes(w, t, c); ok && !slices.ContainsFunc(types, isEmpty) {
			ctors = append(ctors, c)
		}
	}
	if len(ctors) == 0 || depth <= 0 {
		return impl.LeastValue(w, t)
	}
	v := impl.Value{Ctor: ctors[r.IntN(len(ctors))]}
	types, ok := kidTypes(w, t, v.Ctor)
	for i := 0; ok && i < len(types); i++ {
		var kid impl.Value
		kid, ok = randomValue(r, w, types[i], depth-1-r.IntN(3))
		v.Kids = append(v.Kids, kid)
	}
	return v, ok
}

func randomType(r *rand.Rand, w []impl.Data) impl.Type {
	if r.IntN(20) == 0 {
		return intType
	}
	return impl.Type{Data: r.IntN(len(w)), Index: r.IntN(impl.MaxIndex + 1)}
}

// changed is v with a small change at some node.
func changed(r *rand.Rand, v impl.Value) impl.Value {
	v.Kids = slices.Clone(v.Kids)
	if len(v.Kids) > 0 && r.IntN(3) > 0 {
		i := r.IntN(len(v.Kids))
		v.Kids[i] = changed(r, v.Kids[i])
		return v
	}
	switch r.IntN(5) {
	case 0:
		v.Ctor += 1 - 2*r.IntN(2)
	case 1:
		v.N += 1 - 2*r.IntN(2)
	case 2:
		v.N = 9 * r.IntN(2)
	case 3:
		v.Kids = append(v.Kids, number(r.IntN(10)))
	case 4:
		v.Kids = v.Kids[:max(0, len(v.Kids)-1)]
	}
	return v
}

// sharePlaces reports whether two lists in a tree, with what they have behind their ends, have a place in common.
func sharePlaces[T any](list []T, kids func(T) []T) bool {
	places := map[*T]bool{}
	var walk func(list []T) bool
	walk = func(list []T) bool {
		whole := list[:cap(list)]
		for i := range whole {
			if places[&whole[i]] {
				return true
			}
			places[&whole[i]] = true
		}
		return slices.ContainsFunc(list, func(node T) bool { return walk(kids(node)) })
	}
	return walk(list)
}

func shareMemory(values []impl.Value) bool {
	return sharePlaces(values, func(v impl.Value) []impl.Value { return v.Kids })
}

// checkNoValues checks the results of all functions for a type that is not valid.
func checkNoValues(t *testing.T, name string, w []impl.Data, ty impl.Type) {
	t.Helper()
	for _, v := range []impl.Value{{}, number(0), made(0, number(1))} {
		if impl.ValueValid(w, ty, v) || impl.FormatValue(w, ty, v) != "" {
			t.Errorf("%s: %v is a value of %v", name, v, ty)
		}
	}
	for _, text := range []string{"", "0", "Aa", "Nil", "Mk(0)"} {
		if v, ok := impl.ParseValue(w, ty, text); ok || !isZero(v) {
			t.Errorf("%s: ParseValue(%v, %q) = %v, %v", name, ty, text, v, ok)
		}
	}
	for _, depth := range []int{-1, 0, 1, 4, 5} {
		if all, ok := impl.ValuesUpTo(w, ty, depth); ok || len(all) != 0 {
			t.Errorf("%s: ValuesUpTo(%v, %d) = %v, %v", name, ty, depth, all, ok)
		}
	}
	if v, ok := impl.LeastValue(w, ty); ok || !isZero(v) {
		t.Errorf("%s: LeastValue(%v) = %v, %v", name, ty, v, ok)
	}
}

// eachInvalidType calls check with types that are not valid, as their worlds are not, or as these do not have them.
func eachInvalidType(t *testing.T, check func(name string, w []impl.Data, ty impl.Type)) {
	t.Helper()
	for name, w := range invalidWorlds() {
		check(name, w, impl.Type{})
		check(name, w, intType)
	}
	w := mustWorld(t, listWorld)
	for _, ty := range []impl.Type{{Data: -1, Index: 1}, {Data: -2}, {Data: 1}, {Index: -1}, {Index: 4}, {Data: math.MinInt}, {Data: math.MaxInt}, {Index: math.MinInt}, {Index: math.MaxInt}} {
		check("lists", w, ty)
	}
	check("no data types", nil, impl.Type{})
}

func TestValuesOfInvalidTypes(t *testing.T) {
	eachInvalidType(t, func(name string, w []impl.Data, ty impl.Type) { checkNoValues(t, name, w, ty) })
}

func TestParseValue(t *testing.T) {
	list, expr := mustWorld(t, listWorld), mustWorld(t, exprWorld)
	for _, c := range []struct {
		w    []impl.Data
		t    impl.Type
		text string
		want impl.Value
	}{
		{nil, intType, "0", number(0)}, {list, intType, "9", number(9)},
		{list, impl.Type{}, "Nil", made(0)}, {list, impl.Type{Index: 3}, "Cons(7,Cons(0,Nil))", made(1, number(7), made(1, number(0), made(0)))},
		{expr, impl.Type{}, "Num(3)", made(0, number(3))}, {expr, impl.Type{Index: 1}, "Add(Num(1),Num(2))", made(2, made(0, number(1)), made(0, number(2)))},
		{expr, impl.Type{Index: 2}, "If(Bol(Tru),Bol(Fls),Bol(Tru))", made(3, made(1, made(0)), made(1, made(1)), made(1, made(0)))},
		// With IndexAny, the two parts of an If can have different indices.
		{expr, impl.Type{}, "If(Bol(Tru),Num(1),Bol(Tru))", made(3, made(1, made(0)), made(0, number(1)), made(1, made(0)))},
		{expr, impl.Type{Data: 1, Index: 2}, "Fls", made(1)},
		{mustWorld(t, "A=I(I)|A|B(A)"), impl.Type{}, "B(I(5))", made(2, made(0, number(5)))},
	} {
		v, ok := impl.ParseValue(c.w, c.t, c.text)
		if !ok || compared(v, c.want) != 0 || !impl.ValueSame(v, c.want) {
			t.Errorf("ParseValue(%v, %q) = %v, %v, not %v", c.t, c.text, v, ok, c.want)
		}
		if got := impl.FormatValue(c.w, c.t, c.want); got != c.text || !impl.ValueValid(c.w, c.t, c.want) {
			t.Errorf("FormatValue(%v, %v) = %q, not %q", c.t, c.want, got, c.text)
		}
	}
}

func TestParseValueRejects(t *testing.T) {
	list, expr := mustWorld(t, listWorld), mustWorld(t, exprWorld)
	for _, c := range []struct {
		w     []impl.Data
		t     impl.Type
		texts []string
	}{
		{list, intType, []string{"", "10", "-1", "+1", "00", "01", " 1", "1 ", "a", ":", "/", "Nil", "I", "1,2", "(1)", "1()", "٣", "\x00", "\xff"}},
		{list, impl.Type{}, []string{
			"", "0", "nil", "Ni", "Nill", "Nil()", "Nil(", "Nil)", "(Nil)", "Nil ", " Nil", "Nil,Nil", "NilNil", "Nil|Nil", "L", "Tru", "_", "a", "Cons", "Cons(", "Cons()", "Cons)", "Cons(1", "Cons(1,", "Cons(1,Nil", "Cons(1,Nil,",
			"Cons(1,Nil))", "Cons(1)", "Cons(1,)", "Cons(,Nil)", "Cons(1,Nil,)", "Cons(1,Nil,Nil)", "Cons(1 ,Nil)", "Cons(1, Nil)", "Cons (1,Nil)", "Cons(1;Nil)", "Cons[1,Nil]", "Cons(10,Nil)", "Cons(-1,Nil)", "Cons(Nil,1)",
			"Cons(Nil,Nil)", "Cons(1,1)", "Cons(1,Nil)x", "Cons(1,Nil)Nil", "Cons((1),Nil)", "Cons1,Nil)", "cons(1,Nil)", "Cons,1,Nil)", "Cons(1(Nil)", "\x00", "\xff", "Nil\x00",
			strings.Repeat("Cons(1,", 100000), strings.Repeat("(", 100000), strings.Repeat("C", 100000), strings.Repeat("Nil", 100000), nested(100000), nested(11),
		}},
		// What the index of the type leaves out, also of parts.
		{expr, impl.Type{Index: 1}, []string{"Bol(Tru)", "If(Num(1),Num(1),Num(1))", "If(Bol(Tru),Bol(Tru),Num(1))", "If(Bol(Tru),Num(1),Bol(Tru))", "Add(Num(1),Bol(Tru))", "Add(Bol(Tru),Num(1))", "Num", "Num(Tru)", "Tru"}},
		{expr, impl.Type{Index: 2}, []string{"Num(1)", "Add(Num(1),Num(1))", "If(Bol(Tru),Num(1),Num(1))", "Bol(1)", "Bol(Num(1))", "Bol"}},
		{expr, impl.Type{Index: 3}, []string{"Num(1)", "Bol(Tru)", "If(Bol(Tru),Num(1),Num(1))", "If(Bol(Tru),Bol(Tru),Bol(Tru))", "If"}},
		{expr, impl.Type{}, []string{"Add(Num(1),Bol(Tru))", "If(Num(1),Num(1),Num(1))", "Nil"}},
		{mustWorld(t, "N=Never(N)"), impl.Type{}, []string{"", "Never", "Never()", "Never(Never)", strings.Repeat("Never(", 20)}},
	} {
		for _, text := range c.texts {
			if v, ok := impl.ParseValue(c.w, c.t, text); ok || !isZero(v) {
				t.Errorf("ParseValue(%v, %q) = %v, %v", c.t, text[:min(50, len(text))], v, ok)
			}
		}
	}
}

func TestValuesAtTheLimits(t *testing.T) {
	list := mustWorld(t, listWorld)
	deep := mustValue(t, list, impl.Type{}, nested(10))
	if !impl.ValueValid(list, impl.Type{}, deep) || impl.DepthOf(deep) != 10 || impl.FormatValue(list, impl.Type{}, deep) != nested(10) {
		t.Errorf("a value of depth 10: %v", deep)
	}
	deeper := made(1, number(0), deep)
	if impl.ValueValid(list, impl.Type{}, deeper) || impl.FormatValue(list, impl.Type{}, deeper) != "" || impl.DepthOf(deeper) != 11 {
		t.Errorf("a value of depth 11: %v", deeper)
	}
	w := mustWorld(t, sizeWorld)
	many, ok := impl.LeastValue(w, impl.Type{Data: 2})
	text := impl.FormatValue(w, impl.Type{Data: 2}, many)
	if !ok || sizeOf(many) != 60 || impl.DepthOf(many) != 5 || compared(mustValue(t, w, impl.Type{Data: 2}, text), many) != 0 {
		t.Errorf("a value with 60 nodes: %v, %v, %q", many, ok, text)
	}
	// The other constructor has one more part with the same text.
	parts := []impl.Value{many.Kids[0], many.Kids[1], made(1, append([]impl.Value{number(0)}, many.Kids[2].Kids...)...)}
	more := made(0, parts...)
	text = strings.Replace(strings.Replace(text, "Mk", "Mn", 1), "Six(", "Sev(0,", 1)
	if v, ok := impl.ParseValue(w, impl.Type{Data: 3}, text); ok || !isZero(v) || sizeOf(more) != 61 {
		t.Errorf("ParseValue of %d nodes = %v, %v", sizeOf(more), v, ok)
	}
	if impl.ValueValid(w, impl.Type{Data: 3}, more) || impl.FormatValue(w, impl.Type{Data: 3}, more) != "" || !isValue(w, impl.Type{Data: 3}, more) {
		t.Error("a value with 61 nodes is valid")
	}
}

func TestValueValidRejects(t *testing.T) {
	list, expr := mustWorld(t, listWorld), mustWorld(t, exprWorld)
	for _, c := range []struct {
		w      []impl.Data
		t      impl.Type
		values []impl.Value
	}{
		{list, intType, []impl.Value{{}, number(-1), number(10), number(math.MaxInt), number(math.MinInt), {Ctor: -2}, {Ctor: 1, N: 1}, made(-1, number(1)), made(-1, made(-1))}},
		{list, impl.Type{}, []impl.Value{
			number(0), {Ctor: -2}, {Ctor: 2}, {Ctor: math.MaxInt}, {Ctor: math.MinInt}, {N: 1}, {N: -1}, made(0, number(1)), made(0, made(0)), made(1), made(1, number(1)), made(1, number(1), made(0), made(0)),
			made(1, made(0), number(1)), made(1, number(10), made(0)), made(1, number(1), number(1)), made(1, number(1), impl.Value{N: 1}), {Ctor: 1, N: 1, Kids: []impl.Value{number(1), made(0)}},
			made(1, number(1), made(2)), made(1, number(1), made(1, number(-1), made(0))), made(1, make([]impl.Value, 1000000)...),
		}},
		{expr, impl.Type{Index: 1}, []impl.Value{made(1, made(0)), made(2, made(0, number(1)), made(1, made(0))), made(4)}},
		{expr, impl.Type{Index: 2}, []impl.Value{made(0, number(1)), made(2, made(0, number(1)), made(0, number(1)))}},
		{expr, impl.Type{Index: 3}, []impl.Value{made(0, number(1)), made(1, made(0)), made(3, made(1, made(0)), made(1, made(0)), made(1, made(0)))}},
	} {
		for _, v := range c.values {
			if impl.ValueValid(c.w, c.t, v) || impl.FormatValue(c.w, c.t, v) != "" || isValue(c.w, c.t, v) {
				t.Errorf("%v with %d parts is a value of %v", v.Ctor, len(v.Kids), c.t)
			}
		}
	}
	empty := impl.Value{Kids: []impl.Value{}}
	if !impl.ValueValid(list, impl.Type{}, empty) || impl.FormatValue(list, impl.Type{}, empty) != "Nil" || !impl.ValueSame(empty, made(0)) {
		t.Error("no Kids and an empty slice of Kids are different")
	}
}

func TestValuesUpTo(t *testing.T) {
	texts := func(w []impl.Data, ty impl.Type, depth int) string {
		all, ok := impl.ValuesUpTo(w, ty, depth)
		if !ok {
			return "none"
		}
		var list []string
		for _, v := range all {
			list = append(list, impl.FormatValue(w, ty, v))
		}
		return strings.Join(list, " ")
	}
	twoArgs := "P=Pair(B,O)|Lone;B=Tru|Fls;O=Non|Som(B)"
	for _, c := range []struct {
		world string
		t     impl.Type
		depth int
		want  string
	}{
		{"", intType, 0, ""}, {"", intType, 1, "0 1 2 3 4 5 6 7 8 9"}, {"", intType, 4, "0 1 2 3 4 5 6 7 8 9"},
		{listWorld, impl.Type{}, 0, ""}, {listWorld, impl.Type{}, 1, "Nil"}, {listWorld, impl.Type{}, 4, "none"},
		{listWorld, impl.Type{}, 2, "Nil Cons(0,Nil) Cons(1,Nil) Cons(2,Nil) Cons(3,Nil) Cons(4,Nil) Cons(5,Nil) Cons(6,Nil) Cons(7,Nil) Cons(8,Nil) Cons(9,Nil)"},
		{twoArgs, impl.Type{}, 1, "Lone"}, {twoArgs, impl.Type{}, 2, "Pair(Tru,Non) Pair(Fls,Non) Lone"},
		{twoArgs, impl.Type{Index: 2}, 3, "Pair(Tru,Non) Pair(Tru,Som(Tru)) Pair(Tru,Som(Fls)) Pair(Fls,Non) Pair(Fls,Som(Tru)) Pair(Fls,Som(Fls)) Lone"},
		// A type without values, alone and beside types with values, of which there may be too many.
		{"N=Never(N);B=Tru|Fls|May(N)", impl.Type{}, 4, ""}, {"N=Never(N);B=Tru|Fls|May(N)", impl.Type{Data: 1}, 4, "Tru Fls"},
		{"A=Big(C,N)|Bag(N,C)|Bug(C,N,C)|Ok;N=Never(N);C=Cc(I,I,I)", impl.Type{}, 4, "Ok"},
		{"A=Big(C,N)|Bag(N,C)|Bug(C,N,C)|Ok;N=Never(N);C=Cc(I,I,I)", impl.Type{Data: 2}, 2, "none"},
		{"A=Big(C,N)|Bag(N,C)|Bug(C,N,C)|Ok;N=Late(M);M=May(I);C=Cc(I,I,I)", impl.Type{}, 3, "Ok"},
		{"A=Big(C,N)|Bag(N,C)|Bug(C,N,C)|Ok;N=Late(M);M=May(I);C=Cc(I,I,I)", impl.Type{}, 4, "none"},
		// Constructors that the index leaves out.
		{"L=Nil:1|Put(L*)|Add(L1):2", impl.Type{}, 2, "Nil Put(Nil) Add(Nil)"}, {"L=Nil:1|Put(L*)|Add(L1):2", impl.Type{Index: 1}, 3, "Nil Put(Nil) Put(Put(Nil))"},
		{"L=Nil:1|Put(L*)|Add(L1):2", impl.Type{Index: 2}, 3, "Put(Add(Nil)) Add(Nil) Add(Put(Nil))"}, {"L=Nil:1|Put(L*)|Add(L1):2", impl.Type{Index: 3}, 4, ""},
		{"L=Nil:1|Put(L*)|Add(L1):2", impl.Type{Index: 2}, 1, ""}, {"L=Nil:1|Put(L*)|Add(L1):2", impl.Type{}, 0, ""},
		{"A=Aa(I,I,I)", impl.Type{}, 1, ""}, {"A=Aa(I,I,I)", impl.Type{}, 2, "none"},
	} {
		var w []impl.Data
		if c.world != "" {
			w = mustWorld(t, c.world)
		}
		want := c.want
		if want == "" {
			all, ok := impl.ValuesUpTo(w, c.t, c.depth)
			if len(all) != 0 || !ok {
				t.Errorf("ValuesUpTo(%q, %v, %d) = %v, %v", c.world, c.t, c.depth, all, ok)
			}
		}
		if got := texts(w, c.t, c.depth); got != want {
			t.Errorf("ValuesUpTo(%q, %v, %d) = %s, not %s", c.world, c.t, c.depth, got, want)
		}
	}
}

func TestValuesUpToLimits(t *testing.T) {
	exact := mustWorld(t, "A=Aa(I,I)|Ab(I,I)|Ac(I,I)|Ad(I,I)")
	if all, ok := impl.ValuesUpTo(exact, impl.Type{}, 2); len(all) != 400 || !ok || impl.FormatValue(exact, impl.Type{}, all[399]) != "Ad(9,9)" {
		t.Errorf("ValuesUpTo of 400 values: %d, %v", len(all), ok)
	}
	over := mustWorld(t, "A=Aa(I,I)|Ab(I,I)|Ac(I,I)|Ad(B);B=Ba|Bb(I,I)")
	if all, ok := impl.ValuesUpTo(over, impl.Type{}, 2); len(all) != 301 || !ok {
		t.Errorf("ValuesUpTo of 301 values: %d, %v", len(all), ok)
	}
	for _, depth := range []int{3, 4} {
		if all, ok := impl.ValuesUpTo(over, impl.Type{}, depth); len(all) != 0 || ok {
			t.Errorf("ValuesUpTo of 401 values: %d, %v", len(all), ok)
		}
	}
	for _, depth := range []int{-1, 5, 10, math.MinInt, math.MaxInt} {
		for _, ty := range []impl.Type{intType, {Data: 1}} {
			if all, ok := impl.ValuesUpTo(over, ty, depth); len(all) != 0 || ok {
				t.Errorf("ValuesUpTo with the depth %d = %v, %v", depth, all, ok)
			}
		}
	}
	// Many constructors with many arguments: too many values, at all depths but the least one.
	wide := mustWorld(t, "A=Aa(A,A,A)|Ab(B,B,B)|Ac(A,B,A)|Ad;B=Ba(A,A,A)|Bb(B,B,B)|Bc(A,B,A)|Bd")
	if all, ok := impl.ValuesUpTo(wide, impl.Type{}, 2); len(all) != 4 || !ok {
		t.Errorf("ValuesUpTo = %v, %v", all, ok)
	}
	if all, ok := impl.ValuesUpTo(wide, impl.Type{}, 3); len(all) != 193 || !ok {
		t.Errorf("ValuesUpTo: %d, %v", len(all), ok)
	}
	if all, ok := impl.ValuesUpTo(wide, impl.Type{}, 4); len(all) != 0 || ok {
		t.Errorf("ValuesUpTo: %d, %v", len(all), ok)
	}
}

func TestLeastValue(t *testing.T) {
	for _, c := range []struct {
		world string
		t     impl.Type
		want  string // empty if there is none
	}{
		{"", intType, "0"}, {listWorld, intType, "0"}, {listWorld, impl.Type{}, "Nil"}, {listWorld, impl.Type{Index: 3}, "Nil"},
		{exprWorld, impl.Type{}, "Num(0)"}, {exprWorld, impl.Type{Index: 1}, "Num(0)"}, {exprWorld, impl.Type{Index: 2}, "Bol(Tru)"}, {exprWorld, impl.Type{Index: 3}, ""},
		{"N=Never(N);B=May(N)|Two(I,N)|Tru|Fls", impl.Type{}, ""}, {"N=Never(N);B=May(N)|Two(I,N)|Tru|Fls", impl.Type{Data: 1}, "Tru"},
		// The first constructor of least depth, which need not have the fewest nodes.
		{"A=Deep(B)|Wide(I,I,I)|Slim(I);B=Put(I)", impl.Type{}, "Wide(0,0,0)"}, {"A=Put(I)|End|Fin", impl.Type{}, "End"},
		{"A=Mk(B,C)|Lo(C);B=Ba(C)|Bb(I);C=Ca(B)|Cb:2|Cc:1", impl.Type{}, "Lo(Cb)"}, {"A=Mk(B,C);B=Ba(C)|Bb(I);C=Ca(B)|Cb:2|Cc:1", impl.Type{}, "Mk(Ba(Cb),Cb)"},
		{"A=Mk(B*);B=Tru:2|Fls(I):1", impl.Type{}, "Mk(Tru)"}, {"A=Mk(B*);B=Tru:2|Fls(I):1", impl.Type{Index: 1}, "Mk(Fls(0))"}, {"A=Mk(B*);B=Tru:2|Fls(I):1", impl.Type{Index: 3}, ""},
		// The depth of 10, and a greater one.
		{chainWorld, impl.Type{Data: 1, Index: 3}, "Cz(Cy(Cx(Bz(By(Bx(Az(Ay(Ax(0)))))))))"}, {chainWorld, impl.Type{Data: 0, Index: 1}, ""}, {chainWorld, impl.Type{Data: 0, Index: 3}, ""}, {chainWorld, impl.Type{}, ""},
		// 60 and 61 nodes.
		{sizeWorld, impl.Type{Data: 1, Index: 2}, "Sev(0,0,Ta(0,0,0))"}, {sizeWorld, impl.Type{Data: 3}, ""},
		{"D=Dz(D2,D2,D2):3|Dy(D1,D1,D1):2|Dx(C3,C3,C3):1;C=Cz(C2,C2,C2):3|Cy(C1,C1,C1):2|Cx(B3,B3,B3):1;B=Bz(B2,B2,B2):3|By(B1,B1,B1):2|Bx(A3,A3,A3):1;A=Az(A2,A2,A2):3|Ay(A1,A1,A1):2|Ax(I,I,I):1", impl.Type{Index: 3}, ""},
	} {
		var w []impl.Data
		if c.world != "" {
			w = mustWorld(t, c.world)
		}
		v, ok := impl.LeastValue(w, c.t)
		if ok != (c.want != "") || !ok && !isZero(v) {
			t.Errorf("LeastValue(%q, %v) = %v, %v", c.world, c.t, v, ok)
		}
		if ok && impl.FormatValue(w, c.t, v) != c.want {
			t.Errorf("LeastValue(%q, %v) = %s, not %s", c.world, c.t, impl.FormatValue(w, c.t, v), c.want)
		}
	}
}

func TestCompareValues(t *testing.T) {
	ascending := []impl.Value{
		{Ctor: math.MinInt}, {Ctor: -2, N: 7}, number(math.MinInt), number(-1), number(0), made(-1, number(0)), number(9), number(math.MaxInt),
		{N: -1, Kids: []impl.Value{made(5)}}, made(0), made(0, number(3)), made(0, number(3), number(0)), made(0, number(3), made(0)), made(0, number(4)), made(0, made(0)), made(0, made(0, made(0), number(1))), made(0, made(0, made(0), number(2))), made(0, made(1)), {N: 1},
		made(1), made(1, number(0), made(1, number(9), made(0))), made(1, number(1), made(0)), made(1, number(1), made(1, number(0), made(0))), {Ctor: math.MaxInt},
	}
	for i, a := range ascending {
		for j, b := range ascending {
			want := 0
			if i < j {
				want = -1
			} else if i > j {
				want = 1
			}
			if got := impl.CompareValues(a, b); got != want || compared(a, b) != want || impl.ValueSame(a, b) != (want == 0) {
				t.Errorf("CompareValues(%v, %v) = %d, not %d", a, b, got, want)
			}
		}
	}
}

func TestDepthOf(t *testing.T) {
	for _, c := range []struct {
		v    impl.Value
		want int
	}{
		{impl.Value{}, 1}, {number(5), 1}, {number(-7), 1}, {impl.Value{Ctor: 99, N: 3}, 1}, {impl.Value{Kids: []impl.Value{}}, 1}, {made(0, number(1)), 2}, {made(9, made(9), made(9, made(9)), made(9)), 3},
		{made(0, made(0, made(0)), made(0, made(0, made(0))), made(0, made(0))), 4}, {made(-1, number(1)), 2},
	} {
		if got := impl.DepthOf(c.v); got != c.want {
			t.Errorf("DepthOf(%v) = %d, not %d", c.v, got, c.want)
		}
	}
}

func TestHugeValues(t *testing.T) {
	chain := func(levels int, end impl.Value) impl.Value {
		for range levels {
			end = made(1, number(0), end)
		}
		return end
	}
	const levels = 300000
	a, b := chain(levels, made(0)), chain(levels, made(0))
	if impl.DepthOf(a) != levels+1 || !impl.ValueSame(a, b) || impl.CompareValues(a, chain(levels, made(1))) != -1 || impl.CompareValues(a, chain(levels-1, made(0))) != 1 {
		t.Error("deep values are wrong")
	}
	// Values whose nodes are too many to be visited one by one.
	shared := func(end impl.Value) impl.Value {
		for range 100 {
			end = made(1, end, end)
		}
		return end
	}
	c, d := shared(made(0)), shared(made(0))
	if impl.DepthOf(c) != 101 || !impl.ValueSame(c, d) || !impl.ValueSame(c, c) || impl.CompareValues(c, shared(made(2))) != -1 || impl.CompareValues(shared(made(0, number(1))), c) != 1 {
		t.Error("values with shared parts are wrong")
	}
	w := mustWorld(t, "L=Nil|Cons(L,L)")
	for _, v := range []impl.Value{a, c} {
		if impl.ValueValid(w, impl.Type{}, v) || impl.FormatValue(w, impl.Type{}, v) != "" {
			t.Error("a huge value is valid")
		}
	}
}

func TestValuesInsideOfThemselves(t *testing.T) {
	loop := func(ctor int) impl.Value {
		kids := make([]impl.Value, 2)
		kids[1] = made(ctor)
		kids[0] = made(1, kids...)
		kids[0].Kids = kids
		return kids[0]
	}
	a, b := loop(0), loop(0)
	w := mustWorld(t, "L=Nil|Cons(L,L)")
	if impl.ValueValid(w, impl.Type{}, a) || impl.FormatValue(w, impl.Type{}, a) != "" || impl.DepthOf(a) != 0 {
		t.Error("a value inside of itself is valid, or has a depth")
	}
	if !impl.ValueSame(a, b) || impl.CompareValues(a, loop(1)) != -1 || impl.CompareValues(loop(1), a) != 1 || impl.ValueSame(a, a.Kids[1]) {
		t.Error("values inside of themselves are compared in a wrong way")
	}
}

func TestValuesOfRandomWorlds(t *testing.T) {
	r := rand.New(rand.NewPCG(4, 4))
	listed, many := 0, 0
	for range 1500 {
		w := randomWorld(r)
		ty := randomType(r, w)
		depth := r.IntN(5)
		count := countWithin(w, ty, depth, map[[3]int]int{})
		all, ok := impl.ValuesUpTo(w, ty, depth)
		if ok != (count <= impl.MaxValues) || ok && len(all) != count || !ok && len(all) != 0 {
			t.Fatalf("ValuesUpTo(%q, %v, %d): %d, %v, not %d", impl.FormatWorld(w), ty, depth, len(all), ok, count)
		}
		// As many different values of this type and depth as there are: these are all.
		for i, v := range all {
			if !isValue(w, ty, v) || heightOf(v) > depth || i > 0 && compared(all[i-1], v) != -1 {
				t.Fatalf("ValuesUpTo(%q, %v, %d): %v is wrong", impl.FormatWorld(w), ty, depth, v)
			}
		}
		if shareMemory(all) {
			t.Fatalf("ValuesUpTo(%q, %v, %d) shares memory", impl.FormatWorld(w), ty, depth)
		}
		if len(all) > 1 {
			listed++
		} else if !ok {
			many++
		}
	}
	if listed < 200 || many < 50 {
		t.Errorf("only %d lists of values, and %d that are too long", listed, many)
	}
}

func TestLeastValuesOfRandomWorlds(t *testing.T) {
	r := rand.New(rand.NewPCG(5, 5))
	for range 3000 {
		w := randomWorld(r)
		ty := randomType(r, w)
		depth, has := impl.LeastDepth(w, ty)
		v, ok := impl.LeastValue(w, ty)
		if ok && (!isValue(w, ty, v) || heightOf(v) != depth || shareMemory([]impl.Value{v})) || !ok && !isZero(v) {
			t.Fatalf("LeastValue(%q, %v) = %v, %v", impl.FormatWorld(w), ty, v, ok)
		}
		if ok && ty.Data != impl.DataInt {
			checkLeast(t, w, ty, v, depth)
		}
		if has && !ok && depth <= 4 {
			t.Fatalf("LeastValue(%q, %v) is missing", impl.FormatWorld(w), ty)
		}
	}
}

// checkLeast checks that no earlier constructor makes a value of this depth, and that the Kids are least, too.
func checkLeast(t *testing.T, w []impl.Data, ty impl.Type, v impl.Value, depth int) {
	t.Helper()
	for c := range v.Ctor {
		args, ok := kidTypes(w, ty, c)
		for _, arg := range args {
			ok = ok && valuesWithin(w, arg, depth-1, map[[3]int]bool{})
		}
		if ok {
			t.Fatalf("LeastValue(%q, %v) = %v: %d comes first", impl.FormatWorld(w), ty, v, c)
		}
	}
	args, _ := kidTypes(w, ty, v.Ctor)
	for i, arg := range args {
		if kid, ok := impl.LeastValue(w, arg); !ok || compared(kid, v.Kids[i]) != 0 {
			t.Fatalf("LeastValue(%q, %v) = %v, but that of %v is %v", impl.FormatWorld(w), ty, v, arg, kid)
		}
	}
}

func TestRandomValuesAreReadBack(t *testing.T) {
	r := rand.New(rand.NewPCG(6, 6))
	valid, large, others := 0, 0, 0
	for range 20000 {
		w := randomWorld(r)
		ty := randomType(r, w)
		v, ok := randomValue(r, w, ty, r.IntN(10))
		if !ok {
			continue
		}
		if r.IntN(2) == 0 {
			v = changed(r, v)
		}
		if impl.DepthOf(v) != heightOf(v) {
			t.Fatalf("DepthOf(%v) = %d", v, impl.DepthOf(v))
		}
		is := isValue(w, ty, v)
		fits := sizeOf(v) <= impl.MaxNodes && heightOf(v) <= impl.MaxDepth
		text := impl.FormatValue(w, ty, v)
		if impl.ValueValid(w, ty, v) != (is && fits) || (text != "") != (is && fits) {
			t.Fatalf("%q, %v: %v is valid, or is not; its text is %q", impl.FormatWorld(w), ty, v, text)
		}
		if is && fits {
			back, ok := impl.ParseValue(w, ty, text)
			if !ok || compared(back, v) != 0 || !impl.ValueSame(back, v) || shareMemory([]impl.Value{back, v}) {
				t.Fatalf("%v has the text %q, which is read as %v, %v", v, text, back, ok)
			}
			valid++
		} else if is {
			large++
		} else {
			others++
		}
	}
	if valid < 2000 || large < 20 || others < 2000 {
		t.Errorf("only %d valid values, %d that are too large, and %d others", valid, large, others)
	}
}

func TestRandomValuesAreCompared(t *testing.T) {
	r := rand.New(rand.NewPCG(7, 7))
	counts := map[int]int{}
	for range 20000 {
		w := randomWorld(r)
		ty := randomType(r, w)
		a, _ := randomValue(r, w, ty, 3)
		b, _ := randomValue(r, w, ty, 3)
		if r.IntN(2) == 0 {
			b = changed(r, a)
		}
		c := impl.CompareValues(a, b)
		if c != compared(a, b) || impl.CompareValues(b, a) != -c || impl.ValueSame(a, b) != (c == 0) {
			t.Fatalf("CompareValues(%v, %v) = %d", a, b, c)
		}
		counts[c]++
	}
	if counts[-1] < 1000 || counts[0] < 1000 || counts[1] < 1000 {
		t.Errorf("the results are %v", counts)
	}
}

// readTree reads a text as names with lists of parts behind them, without a look at types.
func readTree(text string) (name string, parts []string, ok bool) {
	open := strings.IndexByte(text, '(')
	if open < 0 {
		return text, nil, true
	}
	if !strings.HasSuffix(text, ")") {
		return "", nil, false
	}
	depth, from := 0, open+1
	for i := open; i < len(text); i++ {
		switch text[i] {
		case '(':
			depth++
		case ')':
			depth--
			if depth == 0 && i < len(text)-1 {
				return "", nil, false
			}
		case ',':
			if depth == 1 {
				parts = append(parts, text[from:i])
				from = i + 1
			}
		}
	}
	return text[:open], append(parts, text[from:len(text)-1]), depth == 0
}

// isValueText reports whether a text is that of a value of a type, of any size.
func isValueText(w []impl.Data, t impl.Type, text string) bool {
	if t.Data == impl.DataInt {
		return len(text) == 1 && strings.Contains("0123456789", text)
	}
	name, parts, ok := readTree(text)
	place := slices.IndexFunc(w[t.Data].Ctors, func(c impl.Ctor) bool { return c.Name == name })
	types, has := kidTypes(w, t, place)
	if !ok || !has || len(types) != len(parts) {
		return false
	}
	for i, part := range parts {
		if !isValueText(w, types[i], part) {
			return false
		}
	}
	return true
}

func TestChangedValueTexts(t *testing.T) {
	r := rand.New(rand.NewPCG(8, 8))
	valid, others := 0, 0
	for range 30000 {
		w := randomWorld(r)
		ty := randomType(r, w)
		v, ok := randomValue(r, w, ty, 3)
		text := []byte(impl.FormatValue(w, ty, v))
		if !ok || len(text) == 0 {
			continue
		}
		if r.IntN(4) > 0 {
			text = changedText(r, text, "ABCDabcdz0123459(),,  x\x00\xff")
		} else {
			w = randomWorld(r)
			ty = randomType(r, w)
		}
		back, ok := impl.ParseValue(w, ty, string(text))
		if ok != isValueText(w, ty, string(text)) || ok && impl.FormatValue(w, ty, back) != string(text) || !ok && !isZero(back) {
			t.Fatalf("ParseValue(%q, %v, %q) = %v, %v", impl.FormatWorld(w), ty, text, back, ok)
		}
		if ok {
			valid++
		} else {
			others++
		}
	}
	if valid < 300 || others < 3000 {
		t.Errorf("only %d texts are valid, and %d are not", valid, others)
	}
}

func TestValuesLeaveArguments(t *testing.T) {
	w := mustWorld(t, exprWorld)
	spare := []impl.Value{made(1, made(0)), made(0, number(1)), made(0, number(2)), made(9)}
	v := made(3, spare[:3]...)
	v.Kids = spare[:3]
	before := made(3, made(1, made(0)), made(0, number(1)), made(0, number(2)))
	one := impl.Type{Index: 1}
	impl.ValueValid(w, one, v)
	impl.FormatValue(w, one, v)
	impl.CompareValues(v, before)
	impl.ValueSame(v, before)
	impl.DepthOf(v)
	impl.ValuesUpTo(w, one, 3)
	impl.LeastValue(w, one)
	if compared(v, before) != 0 || spare[3].Ctor != 9 || impl.FormatWorld(w) != exprWorld {
		t.Errorf("arguments are changed: %v", spare)
	}
}
