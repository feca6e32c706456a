package tests

import (
	"math"
	"math/rand/v2"
	"regexp"
	"slices"
	"strings"
	"testing"

	"loop.example/matchcompiler/impl"
)

const (
	listWorld = "L=Nil|Cons(I,L)"
	exprWorld = "E=Num(I):1|Bol(B):2|Add(E1,E1):1|If(E2,E*,E*);B=Tru|Fls"
	// A constructor with an index and one without, both with arguments of the index that is made.
	sameWorld = "L=Fix(L*,I,L3):2|Any(L*,L1)|End"
	// Each type has values only by the type before it.
	chainWorld = "D=Dz(D2):3|Dy(D1):2|Dx(C3):1;C=Cz(C2):3|Cy(C1):2|Cx(B3):1;B=Bz(B2):3|By(B1):2|Bx(A3):1;A=Az(A2):3|Ay(A1):2|Ax(I):1"
)

var intType = impl.Type{Data: impl.DataInt}

func mustWorld(t *testing.T, text string) []impl.Data {
	t.Helper()
	w, ok := impl.ParseWorld(text)
	if !ok {
		t.Fatalf("ParseWorld(%q) fails", text)
	}
	return w
}

// oneCtor is a world with one data type L that has this constructor only.
func oneCtor(c impl.Ctor) []impl.Data {
	return []impl.Data{{Name: "L", Ctors: []impl.Ctor{c}}}
}

func oneArg(a impl.Type) []impl.Data {
	return oneCtor(impl.Ctor{Name: "Mk", Args: []impl.Type{a}})
}

func dataOf(name string, ctors ...string) impl.Data {
	d := impl.Data{Name: name}
	for _, c := range ctors {
		d.Ctors = append(d.Ctors, impl.Ctor{Name: c})
	}
	return d
}

func invalidWorlds() map[string][]impl.Data {
	four := make([]impl.Type, 4)
	return map[string][]impl.Data{
		"five data types":       {dataOf("A", "Aa"), dataOf("B", "Ba"), dataOf("C", "Ca"), dataOf("D", "Da"), dataOf("E", "Ea")},
		"no name":               {dataOf("", "Aa")},
		"lowercase name":        {dataOf("l", "Aa")},
		"long name":             {dataOf("LL", "Aa")},
		"uppercase, lowercase":  {dataOf("Ll", "Aa")},
		"byte before A":         {dataOf("@", "Aa")},
		"byte behind Z":         {dataOf("[", "Aa")},
		"name of two bytes":     {dataOf("É", "Aa")},
		"name of numbers":       {dataOf("I", "Aa")},
		"equal data types":      {dataOf("L", "Aa"), dataOf("L", "Ba")},
		"equal, not neighbours": {dataOf("L", "Aa"), dataOf("M", "Ba"), dataOf("L", "Ca")},
		"no constructors":       {dataOf("L")},
		"second without":        {dataOf("L", "Aa"), dataOf("M")},
		"five constructors":     {dataOf("L", "Aa", "Ba", "Ca", "Da", "Ea")},
		"equal constructors":    {dataOf("L", "Aa", "Ba", "Aa")},
		"equal in two":          {dataOf("L", "Aa", "Ba"), dataOf("M", "Ca", "Ba")},
		"constructor's name":    {dataOf("L", "Aa", "nil")},
		"empty constructor":     {dataOf("L", "")},
		"long constructor":      {dataOf("L", "Abcdef")},
		"four arguments":        oneCtor(impl.Ctor{Name: "Mk", Args: four}),
		"numbers with an index": oneArg(impl.Type{Data: impl.DataInt, Index: 1}),
		"same numbers":          oneArg(impl.Type{Data: impl.DataInt, Index: impl.IndexSame}),
		"data too low":          oneArg(impl.Type{Data: -2}),
		"least data":            oneArg(impl.Type{Data: math.MinInt}),
		"data too high":         oneArg(impl.Type{Data: 1}),
		"greatest data":         oneArg(impl.Type{Data: math.MaxInt}),
		"index too low":         oneArg(impl.Type{Index: -2}),
		"index too high":        oneArg(impl.Type{Index: 4}),
		"made too low":          oneCtor(impl.Ctor{Name: "Mk", Index: -1}),
		"made too high":         oneCtor(impl.Ctor{Name: "Mk", Index: 4}),
		"bad second argument":   oneCtor(impl.Ctor{Name: "Mk", Args: []impl.Type{{}, {Data: 2}}}),
	}
}

func TestNameValid(t *testing.T) {
	for _, s := range []string{"A", "Z", "I", "Nil", "Cons", "Azazz", "Zzzzz"} {
		if !impl.NameValid(s) {
			t.Errorf("NameValid(%q) is false", s)
		}
	}
	for _, s := range []string{"", "nil", "a", "NIL", "NiL", "Abcdef", "A1", "A ", " A", "A_", "A`", "A{", "@a", "[a", "É", "Éa", "Né", "A\x00", "\xff", "A\xff", "1", "(", "Nil|A"} {
		if impl.NameValid(s) {
			t.Errorf("NameValid(%q) is true", s)
		}
	}
}

func TestWorldsAtTheLimits(t *testing.T) {
	full := []impl.Data{
		dataOf("A", "A", "B", "C", "D"), dataOf("Z", "Zzzzz", "I", "Z", "E"), dataOf("H", "F"), dataOf("J", "G", "H"),
	}
	full[0].Ctors[3] = impl.Ctor{Name: "D", Args: []impl.Type{intType, {Data: 3, Index: impl.IndexSame}, {Data: 3, Index: impl.MaxIndex}}, Index: impl.MaxIndex}
	full[3].Ctors[1].Args = []impl.Type{{Data: 0, Index: impl.IndexAny}}
	if !impl.WorldValid(full) {
		t.Error("a world at the limits is not valid")
	}
	if got, want := impl.FormatWorld(full), "A=A|B|C|D(I,J*,J3):3;Z=Zzzzz|I|Z|E;H=F;J=G|H(A)"; got != want {
		t.Errorf("FormatWorld = %q, not %q", got, want)
	}
	if w := mustWorld(t, impl.FormatWorld(full)); !impl.WorldSame(w, full) {
		t.Errorf("ParseWorld = %v, not %v", w, full)
	}
}

func TestEmptyWorld(t *testing.T) {
	w, ok := impl.ParseWorld("")
	if !ok || len(w) != 0 || !impl.WorldValid(w) || impl.FormatWorld(w) != "" {
		t.Errorf("ParseWorld of no text = %v, %v", w, ok)
	}
	if !impl.WorldValid(nil) || !impl.WorldSame(nil, []impl.Data{}) || impl.WorldSame(nil, mustWorld(t, listWorld)) {
		t.Error("nil is not the world without data types")
	}
	if !impl.TypeValid(nil, intType) || impl.TypeValid(nil, impl.Type{}) || impl.FormatType(nil, intType) != "I" {
		t.Error("the world without data types does not have the type of numbers only")
	}
	if n, ok := impl.LeastDepth(nil, intType); n != 1 || !ok || !impl.Inhabited(nil, intType) {
		t.Errorf("LeastDepth of numbers = %d, %v", n, ok)
	}
}

func TestInvalidWorlds(t *testing.T) {
	for name, w := range invalidWorlds() {
		if impl.WorldValid(w) || impl.FormatWorld(w) != "" || !impl.WorldSame(w, w) {
			t.Errorf("%s: the world is valid, has a text, or is not the same", name)
		}
		for _, ty := range []impl.Type{intType, {}} {
			checkNoType(t, name, w, ty)
		}
	}
}

// checkNoType checks the results of all functions for a type that is not valid.
func checkNoType(t *testing.T, name string, w []impl.Data, ty impl.Type) {
	t.Helper()
	if impl.TypeValid(w, ty) || impl.FormatType(w, ty) != "" || impl.Inhabited(w, ty) {
		t.Errorf("%s: the type %v is valid, has a text or has values", name, ty)
	}
	if n, ok := impl.LeastDepth(w, ty); n != 0 || ok {
		t.Errorf("%s: LeastDepth(%v) = %d, %v", name, ty, n, ok)
	}
	if c, a := impl.CtorsOf(w, ty), impl.ArgTypes(w, ty, 0); len(c) != 0 || len(a) != 0 {
		t.Errorf("%s: CtorsOf(%v) = %v, ArgTypes = %v", name, ty, c, a)
	}
}

func TestInvalidTypes(t *testing.T) {
	w := mustWorld(t, exprWorld)
	for _, ty := range []impl.Type{
		{Data: -1, Index: 1}, {Data: -1, Index: -1}, {Data: -1, Index: 4}, {Data: -2}, {Data: 2}, {Data: 4}, {Data: 0, Index: -1}, {Data: 1, Index: -1},
		{Data: 0, Index: -2}, {Data: 0, Index: 4}, {Data: 1, Index: 4}, {Data: math.MaxInt}, {Data: math.MinInt}, {Index: math.MaxInt}, {Index: math.MinInt},
	} {
		checkNoType(t, "expressions", w, ty)
	}
}

func TestWorldSame(t *testing.T) {
	build := func() []impl.Data {
		return []impl.Data{{Name: "L", Ctors: []impl.Ctor{{Name: "Nil"}, {Name: "Cons", Args: []impl.Type{intType, {Index: 2}}, Index: 1}}}, dataOf("M", "Ma")}
	}
	changes := map[string]func(w []impl.Data) []impl.Data{
		"name of data":  func(w []impl.Data) []impl.Data { w[1].Name = "N"; return w },
		"fewer data":    func(w []impl.Data) []impl.Data { return w[:1] },
		"more data":     func(w []impl.Data) []impl.Data { return append(w, dataOf("N", "Na")) },
		"order":         func(w []impl.Data) []impl.Data { w[0], w[1] = w[1], w[0]; return w },
		"name of ctor":  func(w []impl.Data) []impl.Data { w[0].Ctors[0].Name = "Nix"; return w },
		"index of ctor": func(w []impl.Data) []impl.Data { w[0].Ctors[1].Index = 2; return w },
		"fewer ctors":   func(w []impl.Data) []impl.Data { w[0].Ctors = w[0].Ctors[:1]; return w },
		"fewer args":    func(w []impl.Data) []impl.Data { w[0].Ctors[1].Args = w[0].Ctors[1].Args[:1]; return w },
		"data of arg":   func(w []impl.Data) []impl.Data { w[0].Ctors[1].Args[1].Data = 1; return w },
		"index of arg":  func(w []impl.Data) []impl.Data { w[0].Ctors[1].Args[1].Index = 3; return w },
	}
	if !impl.WorldSame(build(), build()) {
		t.Error("equal worlds are not the same")
	}
	for name, change := range changes {
		w := change(build())
		if impl.WorldSame(build(), w) || impl.WorldSame(w, build()) {
			t.Errorf("worlds with another %s are the same", name)
		}
	}
	empty := []impl.Data{{Name: "L", Ctors: []impl.Ctor{{Name: "Nil", Args: []impl.Type{}}}}, {Name: "?", Ctors: []impl.Ctor{}}}
	if !impl.WorldSame(empty, []impl.Data{{Name: "L", Ctors: []impl.Ctor{{Name: "Nil"}}}, {Name: "?"}}) {
		t.Error("nil and empty slices are different")
	}
}

func TestParseWorld(t *testing.T) {
	want := []impl.Data{
		{Name: "E", Ctors: []impl.Ctor{
			{Name: "Num", Args: []impl.Type{intType}, Index: 1},
			{Name: "Bol", Args: []impl.Type{{Data: 1}}, Index: 2},
			{Name: "Add", Args: []impl.Type{{Index: 1}, {Index: 1}}, Index: 1},
			{Name: "If", Args: []impl.Type{{Index: 2}, {Index: impl.IndexSame}, {Index: impl.IndexSame}}},
		}},
		dataOf("B", "Tru", "Fls"),
	}
	if w := mustWorld(t, exprWorld); !impl.WorldSame(w, want) || impl.FormatWorld(want) != exprWorld {
		t.Errorf("ParseWorld = %v, FormatWorld = %q", w, impl.FormatWorld(want))
	}
	for _, text := range []string{listWorld, sameWorld, chainWorld, "L=L(L)", "A=I(I,I,I):3", "A=Mk(B*,C3,D);B=Use(C);C=Tru;D=Fls(A1)", "A=A;B=B;C=C;D=D", "L=A|B|C|D"} {
		if got := impl.FormatWorld(mustWorld(t, text)); got != text {
			t.Errorf("the text of %q is %q", text, got)
		}
	}
}

func TestParseWorldRejects(t *testing.T) {
	for _, text := range []string{
		"L", "=", "L=", "=A", ";", "L=A;", ";L=A", "L=A;;M=B", "L=A|", "L=|A", "L=A||B", "L==A", "L=A=B", "l=A", "LL=A", "I=A", "É=A", "@=A", "[=A",
		"L=a", "L=Abcdef", "L=AB", "L=A1", "L=Né", "L=A|A", "L=A;L=B", "L=A;M=A", "L=A|B|C|D|E", "A=A;B=B;C=C;D=D;E=E",
		"L=A()", "L=A(", "L=A)", "L=A(I", "L=AI)", "L=A(I))", "L=A((I)", "L=A(I)(I)", "L=A(I)B", "L=A(,)", "L=A(I,)", "L=A(,I)", "L=A(I;I)", "L=A(I,I,I,I)", "L=(I)",
		"L=A(M)", "L=A(l)", "L=A(1)", "L=A(*)", "L=A(I1)", "L=A(I*)", "L=A(I0)", "L=A(L0)", "L=A(L4)", "L=A(L-1)", "L=A(L+1)", "L=A(L01)", "L=A(L10)", "L=A(L**)", "L=A(L1*)", "L=A(LL)", "L=A(L:1)",
		"L=A:", "L=A:0", "L=A:4", "L=A:-1", "L=A:+1", "L=A:01", "L=A:1:1", "L=A:*", "L=A:1(I)", "L=A1:", "L=:1", "L1=A", "L=A:٣",
		" ", " L=A", "L=A ", "L= A", "L=A (I)", "L=A( I)", "L=A\n", "L=A\x00", "\xff", "L=A;\xff=B", "L,M=A", "L=A,B", "L=A/B", strings.Repeat(";", 1000), strings.Repeat("L=A|", 1000), "L=" + strings.Repeat("A(", 1000),
	} {
		if w, ok := impl.ParseWorld(text); ok || len(w) != 0 {
			t.Errorf("ParseWorld(%q) = %v, %v", text, w, ok)
		}
	}
}

func TestTypes(t *testing.T) {
	w := mustWorld(t, exprWorld)
	for text, ty := range map[string]impl.Type{
		"I": intType, "E": {}, "E1": {Index: 1}, "E2": {Index: 2}, "E3": {Index: 3}, "B": {Data: 1}, "B3": {Data: 1, Index: 3},
	} {
		if got := impl.FormatType(w, ty); got != text || !impl.TypeValid(w, ty) {
			t.Errorf("FormatType(%v) = %q, not %q", ty, got, text)
		}
	}
}

func TestCtorsOf(t *testing.T) {
	for _, c := range []struct {
		world string
		t     impl.Type
		want  []int
	}{
		{exprWorld, impl.Type{}, []int{0, 1, 2, 3}}, {exprWorld, impl.Type{Index: 1}, []int{0, 2, 3}}, {exprWorld, impl.Type{Index: 2}, []int{1, 3}},
		{exprWorld, impl.Type{Index: 3}, []int{3}}, {exprWorld, impl.Type{Data: 1}, []int{0, 1}}, {exprWorld, impl.Type{Data: 1, Index: 3}, []int{0, 1}},
		{exprWorld, intType, nil}, {"A=Aa:1|Ab:1|Ac:3", impl.Type{Index: 2}, nil}, {"A=Aa:1|Ab:1|Ac:3", impl.Type{Index: 3}, []int{2}},
		{"N=Never(N)", impl.Type{}, []int{0}},
	} {
		if got := impl.CtorsOf(mustWorld(t, c.world), c.t); !slices.Equal(got, c.want) {
			t.Errorf("CtorsOf(%q, %v) = %v, not %v", c.world, c.t, got, c.want)
		}
	}
}

func TestArgTypes(t *testing.T) {
	e := func(i int) impl.Type { return impl.Type{Index: i} }
	for _, c := range []struct {
		world string
		t     impl.Type
		ctor  int
		want  []impl.Type
	}{
		{exprWorld, e(0), 0, []impl.Type{intType}}, {exprWorld, e(0), 1, []impl.Type{{Data: 1}}}, {exprWorld, e(0), 2, []impl.Type{e(1), e(1)}},
		{exprWorld, e(0), 3, []impl.Type{e(2), e(0), e(0)}}, {exprWorld, e(1), 3, []impl.Type{e(2), e(1), e(1)}}, {exprWorld, e(3), 3, []impl.Type{e(2), e(3), e(3)}},
		{exprWorld, e(2), 0, nil}, {exprWorld, e(3), 1, nil}, {exprWorld, e(0), 4, nil}, {exprWorld, e(0), -1, nil}, {exprWorld, e(0), math.MaxInt, nil}, {exprWorld, e(0), math.MinInt, nil},
		{exprWorld, impl.Type{Data: 1}, 0, nil}, {exprWorld, intType, 0, nil}, {exprWorld, intType, -1, nil},
		{sameWorld, e(0), 0, []impl.Type{e(2), intType, e(3)}}, {sameWorld, e(2), 0, []impl.Type{e(2), intType, e(3)}}, {sameWorld, e(3), 0, nil},
		{sameWorld, e(0), 1, []impl.Type{e(0), e(1)}}, {sameWorld, e(3), 1, []impl.Type{e(3), e(1)}}, {sameWorld, e(1), 2, nil},
		// The index of the value that is made is also that of arguments of other data types.
		{"A=Mk(B*);B=Tru:2|Fls:1", e(1), 0, []impl.Type{{Data: 1, Index: 1}}},
	} {
		if got := impl.ArgTypes(mustWorld(t, c.world), c.t, c.ctor); !slices.Equal(got, c.want) {
			t.Errorf("ArgTypes(%q, %v, %d) = %v, not %v", c.world, c.t, c.ctor, got, c.want)
		}
	}
}

func TestLeastDepth(t *testing.T) {
	for _, c := range []struct {
		world string
		data  int
		want  []int // by index, 0 for no values
	}{
		{listWorld, 0, []int{1, 1, 1, 1}},
		{exprWorld, 0, []int{2, 2, 2, 0}},
		{exprWorld, 1, []int{1, 1, 1, 1}},
		{"N=Never(N);B=Tru|Fls|May(N)", 0, []int{0, 0, 0, 0}},
		{"N=Never(N);B=Tru|Fls|May(N)", 1, []int{1, 1, 1, 1}},
		{"N=Never(N);B=May(N)|Yes(I)", 1, []int{2, 2, 2, 2}},
		{"N=Never(N);B=Both(I,N)|Sec(N,I)", 1, []int{0, 0, 0, 0}},
		{"A=Mk(B);B=Back(A)", 0, []int{0, 0, 0, 0}},
		{"A=Mk(B);B=Use(C);C=Tru", 0, []int{3, 3, 3, 3}},
		{"A=Mk(B)|Alt(C);B=Use(C);C=Tru", 0, []int{2, 2, 2, 2}},
		{"A=Mk(B,C);B=Use(C);C=Tru", 0, []int{3, 3, 3, 3}},
		{"A=Mk(C,B);B=Use(C);C=Tru", 0, []int{3, 3, 3, 3}},
		{"L=Nil:2|Cons(L*)", 0, []int{1, 0, 1, 0}},
		{"L=Nil:2|Put(L2):1|Cons(L*)", 0, []int{1, 2, 1, 0}},
		{"L=Nil:2|Put(L):1|Cons(L3):3", 0, []int{1, 2, 1, 0}},
		{"L=Nil(L*):2|Put(L2):1", 0, []int{0, 0, 0, 0}},
		{"L=Use(L3)|End:2", 0, []int{1, 0, 1, 0}},
		{"A=Mk(B*);B=Tru:2|Fls(I):1", 0, []int{2, 3, 2, 0}},
		// The least depth of a type can be greater than the greatest depth of a valid value.
		{chainWorld, 0, []int{11, 11, 12, 13}},
		{chainWorld, 3, []int{2, 2, 3, 4}},
	} {
		w := mustWorld(t, c.world)
		for i, want := range c.want {
			ty := impl.Type{Data: c.data, Index: i}
			if n, ok := impl.LeastDepth(w, ty); n != want || ok != (want > 0) || impl.Inhabited(w, ty) != ok {
				t.Errorf("LeastDepth(%q, %v) = %d, %v, not %d", c.world, ty, n, ok, want)
			}
		}
	}
	if n, ok := impl.LeastDepth(mustWorld(t, exprWorld), intType); n != 1 || !ok {
		t.Errorf("LeastDepth of numbers = %d, %v", n, ok)
	}
}

func TestTypesShareNoMemory(t *testing.T) {
	w := mustWorld(t, sameWorld)
	again := mustWorld(t, sameWorld)
	args := impl.ArgTypes(w, impl.Type{}, 0)
	args[0].Data, args[1].Data, args[2].Data = 9, 9, 9
	ctors := impl.CtorsOf(w, impl.Type{})
	ctors[0] = 9
	for i := range w[0].Ctors {
		w[0].Ctors[i].Args = append(w[0].Ctors[i].Args, impl.Type{Data: 9})[:len(w[0].Ctors[i].Args)]
	}
	if !impl.WorldSame(w, again) || !slices.Equal(impl.CtorsOf(w, impl.Type{}), []int{0, 1, 2}) {
		t.Errorf("a change of results changes the world: %v", w)
	}
	w[0].Ctors[0].Args[0].Index = 3
	w[0].Ctors[0].Name = "Oth"
	if impl.FormatWorld(again) != sameWorld || impl.FormatWorld(mustWorld(t, sameWorld)) != sameWorld {
		t.Error("a change of a world changes another one")
	}
}

func TestTypesLeaveArguments(t *testing.T) {
	spare := []impl.Type{{Index: impl.IndexSame}, intType, {Index: 3}}
	w := oneCtor(impl.Ctor{Name: "Mk", Args: spare[:1], Index: 2})
	impl.FormatWorld(w)
	impl.ArgTypes(w, impl.Type{}, 0)
	impl.CtorsOf(w, impl.Type{})
	impl.LeastDepth(w, impl.Type{})
	if !slices.Equal(spare, []impl.Type{{Index: impl.IndexSame}, intType, {Index: 3}}) || impl.FormatWorld(w) != "L=Mk(L*):2" {
		t.Errorf("arguments are changed: %v, %v", spare, w)
	}
}

// randomWorld is a valid world.
func randomWorld(r *rand.Rand) []impl.Data {
	w := make([]impl.Data, 1+r.IntN(impl.MaxData))
	letters := r.Perm(16)
	for d := range w {
		w[d].Name = string("ABCDEFGHJKLMNOPZ"[letters[d]])
		for c := range 1 + r.IntN(impl.MaxCtors) {
			name := string(rune('A'+d)) + string(rune('a'+c)) + strings.Repeat("z", r.IntN(4))
			w[d].Ctors = append(w[d].Ctors, impl.Ctor{Name: name, Args: randomArgs(r, len(w)), Index: max(0, r.IntN(6)-2)})
		}
	}
	return w
}

func randomArgs(r *rand.Rand, datas int) []impl.Type {
	args := make([]impl.Type, r.IntN(impl.MaxArgs+1))
	for i := range args {
		args[i] = intType
		if r.IntN(5) > 0 {
			args[i] = impl.Type{Data: r.IntN(datas), Index: r.IntN(5) - 1}
		}
	}
	return args
}

// valuesWithin reports, straight from the definition, whether a type has values up to a depth.
func valuesWithin(w []impl.Data, t impl.Type, depth int, known map[[3]int]bool) bool {
	if depth <= 0 || t.Data == impl.DataInt {
		return depth > 0
	}
	key := [3]int{t.Data, t.Index, depth}
	if has, ok := known[key]; ok {
		return has
	}
	for _, c := range w[t.Data].Ctors {
		all := t.Index == 0 || c.Index == 0 || t.Index == c.Index
		for _, a := range c.Args {
			if a.Index == impl.IndexSame {
				a.Index = max(c.Index, 0)
				if c.Index == 0 {
					a.Index = t.Index
				}
			}
			all = all && valuesWithin(w, a, depth-1, known)
		}
		if all {
			known[key] = true
			return true
		}
	}
	known[key] = false
	return false
}

func TestLeastDepthOfRandomWorlds(t *testing.T) {
	r := rand.New(rand.NewPCG(1, 1))
	for range 2000 {
		w := randomWorld(r)
		known := map[[3]int]bool{}
		for d := range w {
			for i := range impl.MaxIndex + 1 {
				ty := impl.Type{Data: d, Index: i}
				want := 1
				for want <= 20 && !valuesWithin(w, ty, want, known) {
					want++
				}
				n, ok := impl.LeastDepth(w, ty)
				if ok != (want <= 20) || ok && n != want || !ok && n != 0 {
					t.Fatalf("LeastDepth(%q, %v) = %d, %v, not %d", impl.FormatWorld(w), ty, n, ok, want)
				}
			}
		}
	}
}

func TestRandomWorldsAreReadBack(t *testing.T) {
	r := rand.New(rand.NewPCG(2, 2))
	for range 2000 {
		w := randomWorld(r)
		text := impl.FormatWorld(w)
		back, ok := impl.ParseWorld(text)
		if !impl.WorldValid(w) || text == "" || !ok || !impl.WorldSame(back, w) {
			t.Fatalf("%v has the text %q, which is read as %v, %v", w, text, back, ok)
		}
	}
}

var (
	typeShape  = `(?:I|[A-HJ-Z][1-3*]?)`
	ctorShape  = `[A-Z][a-z]{0,4}(?:\(` + typeShape + `(?:,` + typeShape + `){0,2}\))?(?::[1-3])?`
	dataShape  = `[A-HJ-Z]=` + ctorShape + `(?:\|` + ctorShape + `){0,3}`
	worldShape = regexp.MustCompile(`^(?:` + dataShape + `(?:;` + dataShape + `){0,3})?$`)
	dataNames  = regexp.MustCompile(`([A-Z])=`)
	ctorNames  = regexp.MustCompile(`[=|]([A-Za-z]+)`)
	argNames   = regexp.MustCompile(`[(,]([A-HJ-Z])`)
)

// isWorldText reports, by the shape of a text and the names in it, whether it is that of a world.
func isWorldText(text string) bool {
	if !worldShape.MatchString(text) {
		return false
	}
	datas, ctors := map[string]int{}, map[string]int{}
	for _, m := range dataNames.FindAllStringSubmatch(text, -1) {
		datas[m[1]]++
	}
	for _, m := range ctorNames.FindAllStringSubmatch(text, -1) {
		ctors[m[1]]++
	}
	for _, m := range argNames.FindAllStringSubmatch(text, -1) {
		if datas[m[1]] == 0 {
			return false
		}
	}
	for _, names := range []map[string]int{datas, ctors} {
		for _, n := range names {
			if n > 1 {
				return false
			}
		}
	}
	return true
}

// changedText is a text with one of bytes in place of some byte, or in front of it, or without this byte.
func changedText(r *rand.Rand, text []byte, bytes string) []byte {
	at := r.IntN(len(text))
	b := bytes[r.IntN(len(bytes))]
	switch r.IntN(3) {
	case 0:
		text[at] = b
	case 1:
		text = slices.Insert(text, at, b)
	case 2:
		text = slices.Delete(text, at, at+1)
	}
	return text
}

func TestChangedTexts(t *testing.T) {
	r := rand.New(rand.NewPCG(3, 3))
	bytes := "ABILabz0123490*:;|=(),, \x00\xff"
	valid := 0
	for range 30000 {
		text := []byte(impl.FormatWorld(randomWorld(r)))
		for range 1 + r.IntN(2) {
			text = changedText(r, text, bytes)
		}
		w, ok := impl.ParseWorld(string(text))
		if ok != isWorldText(string(text)) || ok && impl.FormatWorld(w) != string(text) || !ok && len(w) != 0 {
			t.Fatalf("ParseWorld(%q) = %v, %v", text, w, ok)
		}
		if ok {
			valid++
		}
	}
	if valid < 1000 {
		t.Errorf("only %d texts are valid", valid)
	}
}
