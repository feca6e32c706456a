package tests

import (
	"fmt"
	"maps"
	"math"
	"math/rand/v2"
	"slices"
	"strconv"
	"testing"

	"loop.example/matchcompiler/impl"
)

func hole() impl.Value { return impl.Value{Ctor: -2} }

func isHole(v impl.Value) bool { return v.Ctor == -2 }

// mustPartial reads the text of a value, in which a part that is not known is a question mark.
func mustPartial(t *testing.T, w []impl.Data, ty impl.Type, text string) impl.Value {
	t.Helper()
	if text == "?" {
		return hole()
	}
	if ty == intType {
		n, _ := strconv.Atoi(text)
		return number(n)
	}
	name, parts, _ := readTree(text)
	for c, ctor := range w[ty.Data].Ctors {
		types, ok := kidTypes(w, ty, c)
		if ctor.Name != name || !ok || len(types) != len(parts) {
			continue
		}
		v := made(c)
		for i, kid := range types {
			v.Kids = append(v.Kids, mustPartial(t, w, kid, parts[i]))
		}
		return v
	}
	t.Fatalf("%q is no value of %v that is known in part", text, ty)
	return impl.Value{}
}

// isPartial reports, straight from the definition, whether v is a value of a valid type that is known in part, of any size.
func isPartial(w []impl.Data, t impl.Type, v impl.Value) bool {
	if isHole(v) {
		return v.N == 0 && len(v.Kids) == 0
	}
	if t == intType {
		return isValue(w, t, v)
	}
	types, ok := kidTypes(w, t, v.Ctor)
	ok = ok && v.N == 0 && len(types) == len(v.Kids)
	for i := 0; ok && i < len(types); i++ {
		ok = isPartial(w, types[i], v.Kids[i])
	}
	return ok
}

// isKnownWhole reports whether no part of a value is a hole.
func isKnownWhole(v impl.Value) bool {
	return !isHole(v) && !slices.ContainsFunc(v.Kids, func(kid impl.Value) bool { return !isKnownWhole(kid) })
}

// headsOf are the Ctor and N of each part of a value, by the text of its path.
func headsOf(v impl.Value) map[string][2]int {
	heads := map[string][2]int{}
	var walk func(v impl.Value, path string)
	walk = func(v impl.Value, path string) {
		heads[path] = [2]int{v.Ctor, v.N}
		for i, kid := range v.Kids {
			walk(kid, fmt.Sprint(path, ".", i))
		}
	}
	walk(v, "v")
	return heads
}

// maskedHeads are those of a value of which only parts at paths are known, and only inside of others that are.
func maskedHeads(v impl.Value, paths [][]int) map[string][2]int {
	heads := map[string][2]int{}
	for text, head := range headsOf(v) {
		path := placeOf(text)
		isKnown, isThere := contains(paths, path), true
		for i := range path {
			isThere = isThere && contains(paths, path[:i])
		}
		if !isKnown {
			head = [2]int{-2, 0}
		}
		if isThere {
			heads[text] = head
		}
	}
	return heads
}

// equalHeads reports whether values have the same parts, but only those of b that are known if more is true.
func equalHeads(a, b map[string][2]int, more bool) bool {
	for path, head := range b {
		if other, ok := a[path]; (!ok || other != head) && !(more && head[0] == -2) {
			return false
		}
	}
	return more || len(a) == len(b)
}

// partAt is the part at a path of a value that is known in part, and whether it is known.
func partAt(v impl.Value, path []int) (impl.Value, bool) {
	for _, i := range path {
		if isHole(v) {
			return v, false
		}
		v = v.Kids[i]
	}
	return v, !isHole(v)
}

// lazily are the clause that a tree chooses for a value that is known in part, and the paths of the parts that it uses, up to the first one that is not known.
func lazily(list []impl.Clause, x impl.Tree, v impl.Value) (clause int, used [][]int, known bool) {
	for {
		path := x.Path
		g := impl.Guard{}
		if x.Op == impl.TreeLeaf {
			g = list[x.Clause].Guard
			for _, b := range x.Binds {
				if b.Var == g.Var {
					path = b.Path
				}
			}
		}
		if x.Op == impl.TreeFail {
			return -1, used, true
		}
		if x.Op == impl.TreeLeaf && g.Op == 0 {
			return x.Clause, used, true
		}
		used = append(used, path)
		part, ok := partAt(v, path)
		if !ok {
			return -1, used, false
		}
		if x.Op == impl.TreeLeaf && holds(g, part.N) {
			return x.Clause, used, true
		}
		if x.Op == impl.TreeLeaf {
			x = x.Else[0]
			continue
		}
		i := slices.IndexFunc(x.Branches, func(b impl.Branch) bool { return b.Ctor == part.Ctor && b.N <= part.N && part.N <= b.M })
		if i < 0 {
			// Such a constructor has no values, so none of them is left to choose a clause for.
			return -1, used, true
		}
		x = x.Branches[i].Tree
	}
}

// randomPartial is a value that is known in part, where constructors without values stand, too.
func randomPartial(r *rand.Rand, w []impl.Data, t impl.Type, depth int) impl.Value {
	if depth <= 0 || r.IntN(5) == 0 {
		return hole()
	}
	if t == intType {
		return number(r.IntN(10))
	}
	ctors := impl.CtorsOf(w, t)
	if len(ctors) == 0 {
		return hole()
	}
	v := made(ctors[r.IntN(len(ctors))])
	types, _ := kidTypes(w, t, v.Ctor)
	for _, kid := range types {
		v.Kids = append(v.Kids, randomPartial(r, w, kid, depth-1))
	}
	return v
}

// filled is a value with others in place of its holes, if there are any.
func filled(r *rand.Rand, w []impl.Data, t impl.Type, v impl.Value) (impl.Value, bool) {
	if isHole(v) {
		return randomValue(r, w, t, 2)
	}
	if t == intType {
		return v, true
	}
	types, _ := kidTypes(w, t, v.Ctor)
	kids := make([]impl.Value, len(v.Kids))
	for i, kid := range v.Kids {
		var ok bool
		if kids[i], ok = filled(r, w, types[i], kid); !ok {
			return impl.Value{}, false
		}
	}
	v.Kids = kids
	return v, true
}

// somePaths are paths of parts of a value, and some that it does not have.
func somePaths(r *rand.Rand, v impl.Value) [][]int {
	var paths [][]int
	share := 1 + r.IntN(8)
	for _, text := range slices.Sorted(maps.Keys(headsOf(v))) {
		if r.IntN(share+1) > 0 {
			paths = append(paths, placeOf(text))
		}
	}
	for range r.IntN(3) {
		path := []int{r.IntN(5) - 1}
		if len(paths) > 0 {
			path = append(slices.Clone(paths[r.IntN(len(paths))]), path...)
		}
		paths = append(paths, path)
	}
	r.Shuffle(len(paths), func(i, j int) { paths[i], paths[j] = paths[j], paths[i] })
	return paths
}

// checkNoPartial checks that v is not known in part as a value of a type.
func checkNoPartial(t *testing.T, name string, w []impl.Data, ty impl.Type, v impl.Value) {
	t.Helper()
	if impl.PartialValid(w, ty, v) {
		t.Errorf("%s: a value with Ctor %d and %d Kids is known in part as one of %v", name, v.Ctor, len(v.Kids), ty)
	}
	for _, paths := range [][][]int{nil, {{}}, {{}, {0}, {1}}} {
		if m, ok := impl.MaskValue(w, ty, v, paths); ok || !isZero(m) {
			t.Errorf("%s: MaskValue(%v, %v) = %v, %v", name, ty, paths, m, ok)
		}
	}
	for _, b := range []impl.Value{hole(), number(0), made(0)} {
		if impl.KnownMore(w, ty, v, b) || impl.KnownMore(w, ty, b, v) {
			t.Errorf("%s: KnownMore of %v holds for a value that is not valid", name, ty)
		}
	}
	if impl.KnownMore(w, ty, v, v) {
		t.Errorf("%s: KnownMore of %v holds for a value that is not valid", name, ty)
	}
}

// checkNotRun checks that no tree and no code runs for a value that is known in part or not valid.
func checkNotRun(t *testing.T, name string, w []impl.Data, ty impl.Type, list []impl.Clause, pick int, v impl.Value) {
	t.Helper()
	if i, path, ok := impl.RunPartial(w, ty, list, pick, v); i != -1 || len(path) != 0 || ok {
		t.Errorf("%s: RunPartial(%v, %d clauses, %d) = %d, %v, %v", name, ty, len(list), pick, i, path, ok)
	}
	checkNotForced(t, name, w, ty, list, pick, v)
}

// checkNotForced checks that no part of a value is used by a tree.
func checkNotForced(t *testing.T, name string, w []impl.Data, ty impl.Type, list []impl.Clause, pick int, v impl.Value) {
	t.Helper()
	if paths := impl.ForcedPaths(w, ty, list, pick, v); len(paths) != 0 {
		t.Errorf("%s: ForcedPaths(%v, %d clauses, %d) = %v", name, ty, len(list), pick, paths)
	}
}

// checkNotFirst checks that no part of a value is used by code.
func checkNotFirst(t *testing.T, name string, w []impl.Data, ty impl.Type, list []impl.Clause, v impl.Value) {
	t.Helper()
	if paths := impl.ForcedFirst(w, ty, list, v); len(paths) != 0 {
		t.Errorf("%s: ForcedFirst(%v, %d clauses) = %v", name, ty, len(list), paths)
	}
}

func TestPartialsOfInvalidTypes(t *testing.T) {
	eachInvalidType(t, func(name string, w []impl.Data, ty impl.Type) {
		for _, v := range []impl.Value{hole(), {}, number(0), made(0), made(1, hole(), hole())} {
			checkNoPartial(t, name, w, ty, v)
		}
	})
}

func TestPartialValid(t *testing.T) {
	e := func(i int) impl.Type { return impl.Type{Index: i} }
	for _, c := range []struct {
		world string
		t     impl.Type
		texts []string
	}{
		{"", intType, []string{"?", "0", "9"}}, {listWorld, intType, []string{"?", "5"}}, {listWorld, e(0), []string{"?", "Nil", "Cons(?,?)", "Cons(3,?)", "Cons(?,Nil)", "Cons(?,Cons(2,?))", "Cons(0,Cons(?,Nil))"}}, {listWorld, e(3), []string{"?", "Cons(?,?)"}},
		// What has no values can have holes.
		{neverWorld, e(0), []string{"?", "May(?)", "May(Never(?))", "May(Never(Never(?)))", "Fls"}}, {neverWorld, impl.Type{Data: 1}, []string{"?", "Never(?)", "Never(Never(?))"}}, {exprWorld, e(3), []string{"?", "If(?,?,?)", "If(Bol(Tru),?,If(?,?,?))"}},
		{exprWorld, e(1), []string{"?", "Num(?)", "Add(?,Num(?))", "If(?,Num(2),?)", "If(If(?,Bol(?),?),?,?)"}}, {exprWorld, e(0), []string{"Bol(?)", "If(Bol(?),Bol(?),Num(?))"}},
	} {
		w, _ := impl.ParseWorld(c.world)
		for _, text := range c.texts {
			if v := mustPartial(t, w, c.t, text); !impl.PartialValid(w, c.t, v) || !isPartial(w, c.t, v) || impl.ValueValid(w, c.t, v) != isKnownWhole(v) {
				t.Errorf("%q: %s is not known in part as a value of %v", c.world, text, c.t)
			}
		}
	}
	empty := impl.Value{Ctor: impl.CtorHole, Kids: []impl.Value{}}
	if w := mustWorld(t, listWorld); !impl.PartialValid(w, e(0), empty) || !impl.KnownMore(w, e(0), hole(), empty) || !impl.KnownMore(w, e(0), empty, hole()) {
		t.Error("no Kids and an empty slice of Kids are different")
	}
}

func TestPartialValidRejects(t *testing.T) {
	list, expr := mustWorld(t, listWorld), mustWorld(t, exprWorld)
	deep := mustValue(t, list, impl.Type{}, nested(10))
	bad := []impl.Value{{Ctor: -2, N: 1}, {Ctor: -2, N: -2}, made(-2, hole()), made(-2, number(1), hole()), {Ctor: -3}, {Ctor: math.MinInt}, made(1, hole(), impl.Value{Ctor: -3}), made(1, impl.Value{Ctor: -2, N: 3}, made(0)), made(1, hole()), made(1, hole(), hole(), hole()), made(0, hole()), made(2, hole()), {Ctor: 1, N: 1, Kids: []impl.Value{hole(), hole()}}, made(1, hole(), made(2)), made(1, made(1, hole(), hole()), hole()), made(1, number(10), hole()), made(1, hole(), number(1))}
	for _, v := range append(notLists(deep), bad...) {
		if isHole(v) && v.N == 0 && len(v.Kids) == 0 {
			continue
		}
		checkNoPartial(t, "lists", list, impl.Type{}, v)
		if isPartial(list, impl.Type{}, v) && heightOf(v) <= 10 {
			t.Errorf("%v is known in part", v)
		}
	}
	for _, v := range []impl.Value{{}, number(-1), number(10), {Ctor: -2, N: 1}, made(-1, hole()), made(-2, hole()), {Ctor: 1, N: 1}, made(1, hole(), hole())} {
		checkNoPartial(t, "numbers", list, intType, v)
	}
	for i, values := range [][]impl.Value{1: {made(1, hole()), made(3, made(0, hole()), hole(), hole()), made(3, hole(), made(1, hole()), hole()), made(4)}, 2: {made(0, hole()), made(2, hole(), hole())}, 3: {made(0, hole()), made(1, hole()), made(2, hole(), hole())}} {
		for _, v := range values {
			checkNoPartial(t, "indices", expr, impl.Type{Index: i}, v)
		}
	}
}

func TestPartialsAtTheLimits(t *testing.T) {
	w := mustWorld(t, listWorld)
	end := hole()
	for range 9 {
		end = made(1, hole(), end)
	}
	if !impl.PartialValid(w, impl.Type{}, end) || heightOf(end) != 10 {
		t.Errorf("a hole at the depth 10: %v", end)
	}
	checkNoPartial(t, "a hole at the depth 11", w, impl.Type{}, made(1, hole(), end))
	checkNoPartial(t, "only a hole at the depth 11", w, impl.Type{}, made(1, number(3), end))
	w = mustWorld(t, sizeWorld)
	many, _ := impl.LeastValue(w, impl.Type{Data: 2})
	many.Kids[2].Kids[0] = hole()
	last := many.Kids[1].Kids[2].Kids
	last[2] = hole()
	if !impl.PartialValid(w, impl.Type{Data: 2}, many) || sizeOf(many) != 60 {
		t.Errorf("a value with %d nodes is not known in part", sizeOf(many))
	}
	if m, ok := impl.MaskValue(w, impl.Type{Data: 2}, many, [][]int{{}, {2}}); !ok || !equalHeads(headsOf(m), maskedHeads(many, [][]int{{}, {2}}), false) {
		t.Errorf("MaskValue of 60 nodes = %v, %v", m, ok)
	}
	more := made(0, many.Kids[0], many.Kids[1], made(1, append([]impl.Value{hole()}, many.Kids[2].Kids...)...))
	if sizeOf(more) != 61 || !isPartial(w, impl.Type{Data: 3}, more) {
		t.Errorf("a value with %d nodes is %v", sizeOf(more), more)
	}
	checkNoPartial(t, "61 nodes", w, impl.Type{Data: 3}, more)
}

func TestHugePartials(t *testing.T) {
	w := mustWorld(t, "L=Nil|Cons(L,L)")
	kids := []impl.Value{hole(), hole()}
	kids[0] = made(1, kids...)
	kids[0].Kids = kids
	checkNoPartial(t, "a value inside of itself", w, impl.Type{}, kids[0])
	shared := hole()
	for range 100 {
		shared = made(1, shared, shared)
	}
	for name, v := range map[string]impl.Value{"many nodes": shared, "many Kids": made(1, make([]impl.Value, 1000000)...), "Kids of a hole": made(-2, make([]impl.Value, 1000000)...)} {
		checkNoPartial(t, name, w, impl.Type{}, v)
		for pick := range picks {
			checkNotRun(t, name, w, impl.Type{}, mustClauses(t, w, impl.Type{}, "Nil/_"), pick, v)
		}
	}
	v := mustPartial(t, w, impl.Type{}, "Cons(Nil,Cons(Nil,?))")
	paths := slices.Repeat([][]int{{3}, {0, 0}, nil, make([]int, 100000), {1}}, 100000)
	if m, ok := impl.MaskValue(w, impl.Type{}, v, paths); !ok || !equalHeads(headsOf(m), headsOf(mustPartial(t, w, impl.Type{}, "Cons(?,Cons(?,?))")), false) {
		t.Errorf("MaskValue with many paths = %v, %v", m, ok)
	}
}

func TestMaskValue(t *testing.T) {
	var first impl.Type
	for _, c := range []struct {
		world string
		t     impl.Type
		value string
		paths [][]int
		want  string
	}{
		{"", intType, "7", nil, "?"}, {"", intType, "7", [][]int{}, "?"}, {"", intType, "7", [][]int{{}}, "7"}, {"", intType, "7", [][]int{nil}, "7"}, {"", intType, "7", [][]int{{0}}, "?"}, {"", intType, "0", [][]int{{}}, "0"}, {listWorld, first, "Nil", nil, "?"}, {listWorld, first, "Nil", [][]int{{}}, "Nil"},
		{listWorld, first, "Cons(3,Nil)", [][]int{{}}, "Cons(?,?)"}, {listWorld, first, "Cons(3,Nil)", [][]int{{}, {0}}, "Cons(3,?)"}, {listWorld, first, "Cons(3,Nil)", [][]int{{1}, {}}, "Cons(?,Nil)"}, {listWorld, first, "Cons(3,Nil)", [][]int{{1}, {}, {0}}, "Cons(3,Nil)"}, {listWorld, first, "Cons(3,Nil)", [][]int{{}, {0}, {}, {0}}, "Cons(3,?)"},
		// The path of a part that contains it is missing.
		{listWorld, first, "Cons(3,Nil)", [][]int{{0}, {1}}, "?"}, {listWorld, first, "Cons(3,Cons(4,Nil))", [][]int{{}, {1, 0}, {1, 1}}, "Cons(?,?)"}, {listWorld, first, "Cons(3,Cons(4,Cons(5,Nil)))", [][]int{{}, {1}, {1, 1, 1}, {1, 0}}, "Cons(?,Cons(4,?))"}, {listWorld, first, "Cons(3,Cons(4,Cons(5,Nil)))", [][]int{{1, 1}, {1}, {}}, "Cons(?,Cons(?,Cons(?,?)))"},
		// Paths of no parts.
		{listWorld, first, "Cons(3,Nil)", [][]int{{}, {2}, {-1}, {math.MaxInt}, {math.MinInt}, {0, 0}, {1, 0}, {1, 1, 1}}, "Cons(?,?)"}, {listWorld, first, "Cons(3,Nil)", [][]int{{}, {0, 0}, {0}, {1, 1}}, "Cons(3,?)"},
		// Below a hole, and at one.
		{listWorld, first, "?", nil, "?"}, {listWorld, first, "?", [][]int{{}}, "?"}, {listWorld, first, "?", [][]int{{}, {0}, {1}}, "?"}, {"", intType, "?", [][]int{{}}, "?"}, {listWorld, first, "Cons(3,?)", [][]int{{}, {0}, {1}, {1, 0}, {1, 1}}, "Cons(3,?)"}, {listWorld, first, "Cons(?,Cons(4,?))", [][]int{{}, {0}, {1}, {1, 0}}, "Cons(?,Cons(4,?))"}, {listWorld, first, "Cons(?,Cons(4,?))", [][]int{{}, {1}}, "Cons(?,Cons(?,?))"},
		{neverWorld, first, "May(Never(?))", [][]int{{}, {0}}, "May(Never(?))"}, {neverWorld, first, "May(Never(?))", [][]int{{}, {0, 0}}, "May(?)"}, {exprWorld, impl.Type{Index: 1}, "If(Bol(Tru),Num(4),?)", [][]int{{1}, {0}, {}, {0, 0}}, "If(Bol(Tru),Num(?),?)"}, {optWorld, first, "Pair(Non,Som(2))", [][]int{{}, {1}}, "Pair(?,Som(?))"},
	} {
		w, _ := impl.ParseWorld(c.world)
		v, want := mustPartial(t, w, c.t, c.value), mustPartial(t, w, c.t, c.want)
		m, ok := impl.MaskValue(w, c.t, v, c.paths)
		if !ok || !impl.ValueSame(m, want) || !equalHeads(headsOf(m), maskedHeads(v, c.paths), false) {
			t.Errorf("MaskValue(%q, %s, %v) = %v, %v, not %s", c.world, c.value, c.paths, m, ok, c.want)
		}
	}
}

func TestKnownMore(t *testing.T) {
	var first impl.Type
	for _, c := range []struct {
		world    string
		t        impl.Type
		a, b     string
		ab, same bool // same is the result with a and b exchanged
	}{
		{"", intType, "?", "?", true, true}, {"", intType, "0", "?", true, false}, {"", intType, "3", "3", true, true}, {"", intType, "3", "4", false, false}, {listWorld, first, "?", "?", true, true}, {listWorld, first, "Nil", "?", true, false}, {listWorld, first, "Cons(?,?)", "?", true, false}, {listWorld, first, "Cons(?,?)", "Cons(?,?)", true, true}, {listWorld, first, "Cons(3,?)", "Cons(?,?)", true, false}, {listWorld, first, "Cons(?,Nil)", "Cons(?,?)", true, false},
		{listWorld, first, "Cons(3,Nil)", "?", true, false}, {listWorld, first, "Cons(3,Nil)", "Cons(3,?)", true, false}, {listWorld, first, "Cons(3,Nil)", "Cons(3,Nil)", true, true}, {listWorld, first, "Cons(?,Cons(?,Nil))", "Cons(?,Cons(?,?))", true, false},
		// Each one is known where the other one is not, or both are known and different.
		{listWorld, first, "Cons(3,?)", "Cons(?,Nil)", false, false}, {listWorld, first, "Nil", "Cons(?,?)", false, false}, {listWorld, first, "Cons(3,Nil)", "Cons(4,?)", false, false}, {listWorld, first, "Cons(3,Cons(?,?))", "Cons(?,Nil)", false, false}, {listWorld, first, "Cons(3,Cons(1,Nil))", "Cons(?,Cons(2,?))", false, false}, {optWorld, first, "Pair(Som(?),Non)", "Pair(Non,?)", false, false}, {optWorld, first, "Pair(Som(1),?)", "Pair(Som(?),Som(?))", false, false},
		{neverWorld, first, "May(Never(?))", "May(?)", true, false}, {neverWorld, first, "May(?)", "Tru", false, false}, {exprWorld, impl.Type{Index: 1}, "If(?,Num(4),?)", "If(?,Num(?),?)", true, false},
	} {
		w, _ := impl.ParseWorld(c.world)
		a, b := mustPartial(t, w, c.t, c.a), mustPartial(t, w, c.t, c.b)
		if impl.KnownMore(w, c.t, a, b) != c.ab || impl.KnownMore(w, c.t, b, a) != c.same {
			t.Errorf("KnownMore(%q, %s, %s) = %v, and %v the other way", c.world, c.a, c.b, !c.ab, !c.same)
		}
	}
}

func TestRunPartial(t *testing.T) {
	type runCase struct {
		value string
		want  [picks]string // a clause, -1 or a path; one that is empty is that of PickFirst
	}
	same := func(value, want string) runCase { return runCase{value, [picks]string{want}} }
	var first impl.Type
	for _, c := range []struct {
		world   string
		t       impl.Type
		clauses string
		runs    []runCase
	}{
		// A value that is not known at all.
		{"", intType, "", []runCase{same("?", "-1"), same("3", "-1")}}, {listWorld, first, "", []runCase{same("?", "-1"), same("Cons(?,?)", "-1")}}, {listWorld, first, "_", []runCase{same("?", "0")}}, {listWorld, first, "a/Nil", []runCase{same("?", "0"), same("Nil", "0")}}, {listWorld, first, "(_|Nil)/Nil", []runCase{same("?", "0")}}, {listWorld, first, "Nil/_", []runCase{same("?", "v"), same("Nil", "0"), same("Cons(?,?)", "1")}}, {listWorld, first, "Nil", []runCase{same("?", "v"), same("Cons(?,?)", "-1")}}, {"", intType, "3/_", []runCase{same("?", "v"), same("3", "0"), same("2", "1")}}, {"", intType, "0-9", []runCase{same("?", "v"), same("9", "0")}}, {"", intType, "2-5", []runCase{same("?", "v"), same("6", "-1"), same("2", "0")}},
		{listWorld, first, "Cons(3,a)/_", []runCase{same("?", "v"), same("Cons(?,?)", "v.0"), same("Cons(?,Nil)", "v.0"), same("Cons(3,?)", "0"), same("Cons(4,?)", "1")}}, {listWorld, first, "Cons(_,Cons(2,_))/_", []runCase{same("Cons(?,?)", "v.1"), same("Cons(?,Cons(?,?))", "v.1.0"), same("Cons(?,Cons(2,?))", "0"), same("Cons(?,Cons(3,?))", "1"), same("Cons(2,?)", "v.1"), same("Cons(?,Nil)", "1")}},
		// A guard on a part that no pattern tests.
		{listWorld, first, "Cons(a,_) a<3/_", []runCase{same("?", "v"), same("Nil", "1"), same("Cons(?,?)", "v.0"), same("Cons(?,Nil)", "v.0"), same("Cons(2,?)", "0"), same("Cons(3,?)", "1")}}, {listWorld, first, "e@Cons(b,a) b=3/c", []runCase{same("Cons(?,Nil)", "v.0"), same("Cons(3,?)", "0"), same("Cons(0,?)", "1")}}, {"", intType, "a a<3/5", []runCase{same("?", "v"), same("2", "0"), same("5", "1"), same("4", "-1")}}, {"", intType, "a a<0/_", []runCase{same("?", "v"), same("0", "1")}}, {"", intType, "b@a@c b=3", []runCase{same("?", "v"), same("3", "0"), same("4", "-1")}},
		{listWorld, first, "Cons(a,_) a<3/Cons(_,Cons(b,_)) b=1/_", []runCase{same("Cons(?,?)", "v.0"), same("Cons(2,?)", "0"), same("Cons(5,?)", "v.1"), same("Cons(5,Nil)", "2"), same("Cons(5,Cons(?,?))", "v.1.0"), same("Cons(5,Cons(1,?))", "1"), same("Cons(5,Cons(2,?))", "2")}}, {listWorld, first, "Cons(_,Cons(a,_)) a=1", []runCase{same("Cons(?,?)", "v.1"), same("Cons(?,Cons(?,Nil))", "v.1.0"), same("Cons(?,Cons(1,?))", "0"), same("Cons(?,Cons(2,?))", "-1")}},
		// A guard uses its part only where its clause is reached.
		{optWorld, first, "Pair(Non,_)/Pair(_,Som(a)) a<3/_", []runCase{same("Pair(Non,?)", "0"), same("Pair(Som(?),?)", "v.1"), same("Pair(Som(?),Som(?))", "v.1.0"), same("Pair(Som(?),Som(2))", "1"), same("Pair(Som(?),Som(3))", "2"), same("Pair(Som(?),Non)", "2"), same("Pair(?,Non)", "v.0")}}, {optWorld, first, "(Pair(Som(a),_)|Pair(_,Som(a))) a<3/_", []runCase{same("Pair(?,Som(1))", "v.0"), same("Pair(Som(?),?)", "v.0.0"), same("Pair(Som(2),?)", "0"), same("Pair(Som(5),?)", "1"), same("Pair(Non,?)", "v.1"), same("Pair(Non,Som(?))", "v.1.0"), same("Pair(Non,Som(2))", "0"), same("Pair(Non,Non)", "1")}},
		// What is tested first is what is used first.
		{optWorld, first, "Pair(Non,Non)/Pair(_,Som(a))/_", []runCase{same("?", "v"), {"Pair(?,?)", [picks]string{"v.0", "v.1", ""}}, {"Pair(?,Som(?))", [picks]string{"v.0", "1", ""}}, {"Pair(Som(?),?)", [picks]string{"v.1"}}, same("Pair(?,Non)", "v.0"), same("Pair(Non,Non)", "0"), same("Pair(Som(?),Non)", "2"), same("Pair(Non,Som(?))", "1")}}, {cubeWorld, first, "Tri(1,2,3)/Tri(_,2,_)/Tri(_,_,9)/Tri(_,_,8)", []runCase{{"Tri(?,?,?)", [picks]string{"v.0", "v.2", "v.0"}}, {"Tri(1,?,3)", [picks]string{"v.1"}}, {"Tri(?,?,3)", [picks]string{"v.0", "v.1", "v.0"}}}},
		// Constructors without values have no branches.
		{neverWorld, first, "May(_)/_", []runCase{same("?", "v"), same("May(?)", "-1"), same("May(Never(?))", "-1"), same("Fls", "1")}}, {neverWorld, first, "_/May(_)", []runCase{same("May(?)", "0")}}, {neverWorld, impl.Type{Data: 1}, "_", []runCase{same("?", "0"), same("Never(?)", "0")}}, {neverWorld, impl.Type{Data: 1}, "Never(_)/_", []runCase{same("?", "v"), same("Never(?)", "-1")}}, {exprWorld, impl.Type{Index: 3}, "If(_,_,_)/_", []runCase{same("?", "v"), same("If(?,?,?)", "-1")}},
		{exprWorld, impl.Type{Index: 1}, "If(_,Num(a),_) a=3/If(b,_,c)", []runCase{same("?", "v"), same("If(?,?,?)", "v.1"), same("If(?,Num(?),?)", "v.1.0"), same("If(?,Num(3),?)", "0"), same("If(?,Num(4),?)", "1"), same("If(?,Add(?,?),?)", "1"), same("Num(?)", "-1")}},
	} {
		w, _ := impl.ParseWorld(c.world)
		list := mustClauses(t, w, c.t, c.clauses)
		for _, run := range c.runs {
			v := mustPartial(t, w, c.t, run.value)
			for pick, want := range run.want {
				if want == "" {
					want = run.want[impl.PickFirst]
				}
				i, path, ok := impl.RunPartial(w, c.t, list, pick, v)
				got := strconv.Itoa(i)
				if !ok {
					got = pathOf(path)
				}
				if got != want || !ok && i != -1 || ok && len(path) != 0 {
					t.Errorf("RunPartial(%q, %s, %d, %s) = %d, %v, %v, not %s", c.world, c.clauses, pick, run.value, i, path, ok, want)
				}
				checkPartial(t, w, c.t, list, pick, v)
			}
		}
	}
}

func TestForcedPaths(t *testing.T) {
	var first impl.Type
	for _, c := range []struct {
		world   string
		t       impl.Type
		clauses string
		value   string
		first   string
		forced  [picks]string // one that is empty is that of PickFirst, which is that of the code if it is empty, too
	}{
		{"", intType, "", "7", "", [picks]string{}}, {listWorld, first, "", "Nil", "", [picks]string{}}, {"", intType, "_/3", "3", "", [picks]string{}}, {"", intType, "a", "3", "", [picks]string{}}, {"", intType, "3/_", "3", "v", [picks]string{}}, {"", intType, "3/4/5", "9", "v", [picks]string{}}, {listWorld, first, "Cons(3,a)/_", "Cons(3,Nil)", "v v.0", [picks]string{}}, {listWorld, first, "Cons(3,a)/_", "Nil", "v", [picks]string{}}, {listWorld, first, "Cons(_,Cons(2,_))/_", "Cons(1,Cons(3,Nil))", "v v.1 v.1.0", [picks]string{}},
		// Guards: on what no pattern tests, and on what is used already.
		{"", intType, "a a<3/b b=4/_", "2", "v", [picks]string{}}, {"", intType, "a a<3/b b=4/_", "5", "v", [picks]string{}}, {"", intType, "a@0-5 a<3/b@4 b=4/_", "4", "v", [picks]string{}}, {listWorld, first, "Cons(a,_) a<3/_", "Cons(2,Nil)", "v v.0", [picks]string{}}, {listWorld, first, "Cons(a,_) a<3/_", "Cons(3,Nil)", "v v.0", [picks]string{}}, {listWorld, first, "Cons(a,_) a<3/_", "Nil", "v", [picks]string{}}, {listWorld, first, "Cons(a,_) a<3/Cons(_,Cons(b,_)) b=1/_", "Cons(4,Cons(1,Nil))", "v v.0 v.1 v.1.0", [picks]string{}}, {listWorld, first, "Cons(a,Nil) a<3/Cons(3,_)", "Cons(3,Nil)", "v v.1 v.0", [picks]string{}}, {listWorld, first, "Cons(a,Nil) a<3/Cons(3,_)", "Cons(3,Cons(1,Nil))", "v v.1 v.0", [picks]string{}},
		{listWorld, first, "(Cons(a,Nil)|Cons(_,Cons(a,_))) a<3/Cons(1,_)/Cons(1,Nil)", "Cons(4,Cons(7,Nil))", "v v.1 v.1.0 v.0", [picks]string{}}, {listWorld, first, "(Cons(a,Nil)|Cons(_,Cons(a,_))) a<3/Cons(1,_)/Cons(1,Nil)", "Cons(4,Nil)", "v v.1 v.0", [picks]string{}},
		{optWorld, first, "Pair(Non,Non)/Pair(_,Som(a)) a<3/_", "Pair(Non,Som(2))", "v v.0 v.1 v.1.0", [picks]string{"", "v v.1 v.1.0", ""}}, {optWorld, first, "Pair(Non,Non)/Pair(_,Som(a)) a<3/_", "Pair(Som(1),Non)", "v v.0 v.1", [picks]string{"", "v v.1 v.0", ""}},
		// Code also tests for clauses that can no longer be chosen.
		{optWorld, first, "Pair(_,Non)/Pair(Non,Non)/_", "Pair(Som(1),Som(1))", "v v.1 v.0", [picks]string{"v v.1"}}, {optWorld, first, "Pair(_,Non)/Pair(Som(_),Non)/_", "Pair(Non,Som(1))", "v v.1 v.0", [picks]string{"v v.1"}}, {cubeWorld, first, "Tri(_,_,3)/Tri(1,_,2-3)/Tri(2,_,3)/_", "Tri(2,5,7)", "v v.2 v.0", [picks]string{"v v.2"}}, {cubeWorld, first, "Tri(_,_,3)/Tri(_,1,3)/Tri(2,_,7)/_", "Tri(2,5,7)", "v v.2 v.1 v.0", [picks]string{"v v.2 v.0"}},
		{optWorld, first, "Pair(Non,Non)/Pair(Non,_)/Pair(Som(_),_)/Pair(_,Non)", "Pair(Som(1),Som(1))", "v v.0", [picks]string{}}, {cubeWorld, first, "Tri(1,2,_)/Tri(1,_,3)/_", "Tri(1,5,4)", "v v.0 v.1 v.2", [picks]string{}}, {pairWorld, first, "Two(Qa(1,_),_)/Two(Qb,_)/Two(_,Qb)/Two(Qa(_,3),_)/_", "Two(Qb,Qb)", "v v.0", [picks]string{}}, {listWorld, first, "Cons(3,Nil)/Cons(4-9,Cons(_,_))/Cons(3,_)/_", "Cons(4,Nil)", "v v.0 v.1", [picks]string{"", "", "v v.1 v.0"}},
		// Another choice can use a part that code does not use.
		{optWorld, first, "Pair(Non,Non)/_/Pair(_,Som(_))/Pair(_,Som(_))", "Pair(Som(1),Non)", "v v.0", [picks]string{"", "v v.1 v.0", ""}}, {listWorld, first, "Cons(3,Nil)/_", "Cons(4,Nil)", "v v.0", [picks]string{"", "", "v v.1 v.0"}},
		{exprWorld, impl.Type{Index: 1}, "If(_,Num(a),_) a=3/If(b,_,c)", "If(Bol(Tru),Num(4),Num(5))", "v v.1 v.1.0", [picks]string{}}, {neverWorld, first, "May(_)/_", "Fls", "v", [picks]string{}},
	} {
		w, _ := impl.ParseWorld(c.world)
		list, v := mustClauses(t, w, c.t, c.clauses), mustValue(t, w, c.t, c.value)
		if got := pathTexts(impl.ForcedFirst(w, c.t, list, v)); got != c.first {
			t.Errorf("ForcedFirst(%q, %s, %s) = %s, not %s", c.world, c.clauses, c.value, got, c.first)
		}
		for pick, want := range c.forced {
			if want == "" {
				want = c.forced[impl.PickFirst]
			}
			if want == "" {
				want = c.first
			}
			if got := pathTexts(impl.ForcedPaths(w, c.t, list, pick, v)); got != want {
				t.Errorf("ForcedPaths(%q, %s, %d, %s) = %s, not %s", c.world, c.clauses, pick, c.value, got, want)
			}
			checkForced(t, rand.New(rand.NewPCG(34, 34)), w, c.t, list, pick, v)
		}
		checkFirst(t, w, c.t, list, v)
	}
}

// checkPartial checks what the tree of clauses chooses or needs for a value that is known in part, and returns whether it needs more.
func checkPartial(t *testing.T, w []impl.Data, ty impl.Type, list []impl.Clause, pick int, v impl.Value) bool {
	t.Helper()
	i, path, ok := impl.RunPartial(w, ty, list, pick, v)
	x, compiled := impl.CompileClauses(w, ty, list, pick)
	if !compiled || !impl.PartialValid(w, ty, v) {
		checkNotRun(t, "not valid", w, ty, list, pick, v)
		return false
	}
	want, used, known := lazily(list, x, v)
	var need []int
	if !known {
		need = used[len(used)-1]
	}
	if i != want || ok != known || !slices.Equal(path, need) {
		t.Fatalf("%q: %s with %d for %v: RunPartial = %d, %v, %v, not %d, %v, %v", impl.FormatWorld(w), impl.FormatClauses(w, ty, list), pick, v, i, path, ok, want, need, known)
	}
	if !isKnownWhole(v) {
		checkNotForced(t, "not known", w, ty, list, pick, v)
		checkNotFirst(t, "not known", w, ty, list, v)
	}
	return !ok
}

// checkForced checks that what a tree uses for a value decides the clause, and nothing less, and returns how many parts are used, and how many are not.
func checkForced(t *testing.T, r *rand.Rand, w []impl.Data, ty impl.Type, list []impl.Clause, pick int, v impl.Value) (used, unused int) {
	t.Helper()
	name := fmt.Sprintf("%q: %s with %d for %s", impl.FormatWorld(w), impl.FormatClauses(w, ty, list), pick, impl.FormatValue(w, ty, v))
	x, _ := impl.CompileClauses(w, ty, list, pick)
	clause, paths, _ := lazily(list, x, v)
	forced := impl.ForcedPaths(w, ty, list, pick, v)
	if pathTexts(forced) != pathTexts(eachOnce(paths)) || pathsMemory(forced, map[any]bool{}) {
		t.Fatalf("%s: ForcedPaths = %v, not %v", name, forced, paths)
	}
	if known, _ := firstClause(list, v); known != clause {
		t.Fatalf("%s: the tree chooses %d, and the clauses %d", name, clause, known)
	}
	m, ok := impl.MaskValue(w, ty, v, forced)
	if i, path, chosen := impl.RunPartial(w, ty, list, pick, m); !ok || !impl.KnownMore(w, ty, v, m) || i != clause || len(path) != 0 || !chosen {
		t.Fatalf("%s: RunPartial of what is used, %v, is %d, %v, %v, not %d", name, m, i, path, chosen, clause)
	}
	for i, path := range forced {
		less, _ := impl.MaskValue(w, ty, v, slices.Concat(forced[:i], forced[i+1:]))
		if k, need, ok := impl.RunPartial(w, ty, list, pick, less); k != -1 || !slices.Equal(need, path) || ok {
			t.Fatalf("%s: RunPartial without %v is %d, %v, %v", name, path, k, need, ok)
		}
		if !impl.KnownMore(w, ty, m, less) || impl.KnownMore(w, ty, less, m) {
			t.Fatalf("%s: KnownMore is wrong for %v and %v", name, m, less)
		}
	}
	// What is not used can be anything.
	for range 3 {
		other, ok := filled(r, w, ty, m)
		if !ok || !impl.ValueValid(w, ty, other) {
			continue
		}
		if i, _, _ := impl.RunClauses(w, ty, list, other); i != clause || !impl.KnownMore(w, ty, other, m) || pathTexts(impl.ForcedPaths(w, ty, list, pick, other)) != pathTexts(forced) {
			t.Fatalf("%s: with the same parts that are used, %s chooses %d", name, impl.FormatValue(w, ty, other), i)
		}
	}
	return len(forced), sizeOf(v) - len(forced)
}

// checkFirst checks what code uses for a value, and returns how many of these parts the tree for PickFirst does not use.
func checkFirst(t *testing.T, w []impl.Data, ty impl.Type, list []impl.Clause, v impl.Value) int {
	t.Helper()
	name := fmt.Sprintf("%q: %s for %s", impl.FormatWorld(w), impl.FormatClauses(w, ty, list), impl.FormatValue(w, ty, v))
	used := impl.ForcedFirst(w, ty, list, v)
	if _, want, _ := testsFor(list, v); pathTexts(used) != pathTexts(eachOnce(want)) || pathsMemory(used, map[any]bool{}) {
		t.Fatalf("%s: ForcedFirst = %v, not %v", name, used, want)
	}
	if _, ok := impl.CompileClauses(w, ty, list, impl.PickFirst); !ok {
		return 0
	}
	forced := impl.ForcedPaths(w, ty, list, impl.PickFirst, v)
	for _, path := range forced {
		if !contains(used, path) {
			t.Fatalf("%s: the tree uses %v, and the code %v", name, forced, used)
		}
	}
	m, _ := impl.MaskValue(w, ty, v, used)
	want, _ := firstClause(list, v)
	if i, path, ok := impl.RunPartial(w, ty, list, impl.PickFirst, m); i != want || len(path) != 0 || !ok {
		t.Fatalf("%s: RunPartial of what the code uses is %d, %v, %v, not %d", name, i, path, ok, want)
	}
	return len(used) - len(forced)
}

func TestPartialsOfInvalidClauses(t *testing.T) {
	values := []impl.Value{hole(), number(0), number(3), made(0), made(1, number(0), made(0)), made(1, hole(), hole())}
	eachInvalidClauses(t, func(name string, w []impl.Data, ty impl.Type, list []impl.Clause) {
		for _, v := range values {
			checkNotRun(t, name, w, ty, list, impl.PickFirst, v)
			checkNotRun(t, name, w, ty, list, impl.PickMost, v)
			checkNotFirst(t, name, w, ty, list, v)
		}
	})
	w := mustWorld(t, listWorld)
	for _, pick := range []int{-1, 3, math.MinInt, math.MaxInt} {
		for _, text := range []string{"", "_", "Nil", "Cons(a,_) a<3/_"} {
			for _, v := range values {
				checkNotRun(t, "unknown choice", w, impl.Type{}, mustClauses(t, w, impl.Type{}, text), pick, v)
			}
		}
	}
}

func TestPartialsOfInvalidValues(t *testing.T) {
	w := mustWorld(t, listWorld)
	deep := mustValue(t, w, impl.Type{}, nested(10))
	for _, text := range []string{"", "_", "a", "Nil", "Cons(3,a)/_", "Cons(a,_) a<3/Nil"} {
		list := mustClauses(t, w, impl.Type{}, text)
		for _, v := range append(notLists(deep), impl.Value{Ctor: -2, N: 1}, made(-2, hole()), impl.Value{Ctor: -3}, made(1, hole(), made(2)), made(1, hole(), made(1, number(10), hole()))) {
			for pick := range picks {
				checkNotForced(t, text, w, impl.Type{}, list, pick, v)
				if !isHole(v) || v.N != 0 || len(v.Kids) != 0 {
					checkNotRun(t, text, w, impl.Type{}, list, pick, v)
				}
			}
			checkNotFirst(t, text, w, impl.Type{}, list, v)
		}
		for pick := range picks {
			checkPartial(t, w, impl.Type{}, list, pick, deep)
			checkForced(t, rand.New(rand.NewPCG(35, 35)), w, impl.Type{}, list, pick, deep)
		}
	}
	expr := mustWorld(t, exprWorld)
	list := mustClauses(t, expr, impl.Type{Index: 2}, "_")
	checkNotRun(t, "another index", expr, impl.Type{Index: 2}, list, impl.PickFirst, made(0, hole()))
	checkNotFirst(t, "another index", expr, impl.Type{Index: 2}, list, made(0, number(3)))
}

func TestPartialsOfLargeTrees(t *testing.T) {
	w := mustWorld(t, cubeWorld)
	whole := clauseOf(anyPat())
	for text, ok := range alternatives() {
		c := clauseOf(mustPattern(t, w, impl.Type{}, text))
		for _, list := range [][]impl.Clause{{c}, {whole, c}} {
			for _, v := range []impl.Value{hole(), made(1), made(0, number(1), hole(), number(2)), made(0, number(1), number(1), number(1))} {
				checkPartial(t, w, impl.Type{}, list, impl.PickFirst, v)
				if !ok {
					checkNotRun(t, text, w, impl.Type{}, list, impl.PickFirst, v)
					checkNotFirst(t, text, w, impl.Type{}, list, v)
				}
			}
		}
	}
	// There is code for a tree that has too many nodes.
	const odds, evens = "(1|(3|(5|(7|9))))", "(0|(2|(4|(6|8))))"
	list := mustClauses(t, w, impl.Type{}, "Tri("+odds+","+odds+",5)/Tri("+evens+","+odds+",5)/Tri(a@0-9,"+evens+",_) a<9")
	v := mustValue(t, w, impl.Type{}, "Tri(8,9,5)")
	checkNotRun(t, "too many nodes", w, impl.Type{}, list, impl.PickFirst, v)
	if used := pathTexts(impl.ForcedFirst(w, impl.Type{}, list, v)); used != "v v.0 v.1 v.2" {
		t.Errorf("ForcedFirst with too many nodes is %s", used)
	}
	checkFirst(t, w, impl.Type{}, list, v)
}

func TestRandomPartials(t *testing.T) {
	r := rand.New(rand.NewPCG(36, 36))
	valid, whole, invalid, more, masks := 0, 0, 0, 0, 0
	for range 30000 {
		w, ty := randomUsed(r)
		v := randomPartial(r, w, ty, 1+r.IntN(12))
		if r.IntN(5) == 0 {
			v = changed(r, v)
		}
		ok := isPartial(w, ty, v) && sizeOf(v) <= 60 && heightOf(v) <= 10
		if impl.PartialValid(w, ty, v) != ok || impl.ValueValid(w, ty, v) != (ok && isKnownWhole(v)) {
			t.Fatalf("%q, %v: PartialValid(%v) = %v", impl.FormatWorld(w), ty, v, !ok)
		}
		if !ok {
			invalid++
			checkNoPartial(t, "random", w, ty, v)
			continue
		}
		valid++
		if isKnownWhole(v) {
			whole++
		}
		paths := somePaths(r, v)
		m, ok := impl.MaskValue(w, ty, v, paths)
		if !ok || !equalHeads(headsOf(m), maskedHeads(v, paths), false) || !impl.PartialValid(w, ty, m) || shareMemory([]impl.Value{v, m}) {
			t.Fatalf("%q, %v: MaskValue(%v, %v) = %v, %v", impl.FormatWorld(w), ty, v, paths, m, ok)
		}
		if !impl.ValueSame(m, v) {
			masks++
		}
		other, _ := impl.MaskValue(w, ty, v, somePaths(r, v))
		if r.IntN(3) == 0 {
			other = changed(r, other)
		}
		if !impl.PartialValid(w, ty, other) {
			continue
		}
		for _, pair := range [][2]impl.Value{{v, m}, {m, v}, {m, other}, {other, m}, {v, other}, {other, v}, {m, m}} {
			want := equalHeads(headsOf(pair[0]), headsOf(pair[1]), true)
			if impl.KnownMore(w, ty, pair[0], pair[1]) != want {
				t.Fatalf("%q, %v: KnownMore(%v, %v) = %v", impl.FormatWorld(w), ty, pair[0], pair[1], !want)
			}
			if !want {
				more++
			}
		}
	}
	if valid < 20000 || whole < 3000 || invalid < 2000 || more < 20000 || masks < 5000 {
		t.Errorf("only %d values are known in part, %d are known, %d are not valid, %d pairs are not ordered, %d masks hide something", valid, whole, invalid, more, masks)
	}
}

func TestRandomRunsInPart(t *testing.T) {
	r := rand.New(rand.NewPCG(37, 37))
	invalid, unknown, needs, chosen, used, unused, spared := 0, 0, 0, 0, 0, 0, 0
	for i := range 900 {
		w, ty := randomUsed(r)
		list := randomMixed(r, w, ty, i%2 == 0)
		pick := r.IntN(picks)
		var values []impl.Value
		if impl.ClausesValid(w, ty, list) {
			values = slices.DeleteFunc(matchingValues(r, w, ty, list, nil), func(v impl.Value) bool { return !impl.ValueValid(w, ty, v) })
		} else {
			invalid++
		}
		_, known := impl.CompileClauses(w, ty, list, pick)
		if !known {
			unknown++
		}
		partials := []impl.Value{hole()}
		for range 8 {
			partials = append(partials, randomPartial(r, w, ty, 1+r.IntN(5)))
		}
		for _, v := range values {
			m, _ := impl.MaskValue(w, ty, v, somePaths(r, v))
			partials = append(partials, m)
			if checkPartial(t, w, ty, list, pick, m) {
				needs++
			} else if k, _, ok := impl.RunPartial(w, ty, list, pick, m); ok {
				// What is chosen for a part is chosen for the whole.
				if want, _ := firstClause(list, v); k != want {
					t.Fatalf("%q: %s for %v: RunPartial of %v is %d, not %d", impl.FormatWorld(w), impl.FormatClauses(w, ty, list), v, m, k, want)
				}
				chosen++
			}
			if !known {
				continue
			}
			more, others := checkForced(t, r, w, ty, list, pick, v)
			used, unused = used+more, unused+others
			spared += checkFirst(t, w, ty, list, v)
		}
		for _, v := range partials {
			checkPartial(t, w, ty, list, pick, v)
		}
	}
	if invalid < 20 || unknown < 25 || needs < 2500 || chosen < 2500 || used < 15000 || unused < 15000 || spared < 20 {
		t.Errorf("only %d lists are not valid, %d have no tree, %d values need more, %d choose, %d parts are used, %d are not, %d are spared by trees", invalid, unknown, needs, chosen, used, unused, spared)
	}
}

func TestPartialsLeaveArguments(t *testing.T) {
	w := mustWorld(t, optWorld)
	const text = "f@Pair((a@Som(b@(1|2))|a@Som(b)),(Non|Som(_))) b<5/Pair(Som((1|2)),_)/Pair(Som(1),_)/Pair(_,Som(d)) d=3"
	spare := append(mustClauses(t, w, impl.Type{}, text), guarded(varPat(5), equal(5, 5)))
	list := spare[:4]
	v := mustValue(t, w, impl.Type{}, "Pair(Som(1),Som(3))")
	paths := append(make([][]int, 0, 4), []int{}, []int{1}, append(make([]int, 0, 3), 0))
	m, ok := impl.MaskValue(w, impl.Type{}, v, paths)
	if !ok || shareMemory([]impl.Value{v, m}) {
		t.Errorf("MaskValue = %v, %v, or it shares memory", m, ok)
	}
	kept, _ := impl.MaskValue(w, impl.Type{}, m, [][]int{{}, {0}, {1}})
	if !impl.ValueSame(m, kept) || shareMemory([]impl.Value{m, kept}) {
		t.Error("MaskValue of what is known already shares memory, or is another value")
	}
	known := map[any]bool{}
	i, need, ok := impl.RunPartial(w, impl.Type{}, list, impl.PickFirst, kept)
	_, again, _ := impl.RunPartial(w, impl.Type{}, list, impl.PickFirst, kept)
	if i != -1 || ok || !slices.Equal(need, []int{0, 0}) || taken(need, known) || taken(again, known) {
		t.Errorf("RunPartial = %d, %v, %v, or it shares memory", i, need, ok)
	}
	for pick := range picks {
		forced := impl.ForcedPaths(w, impl.Type{}, list, pick, v)
		first := impl.ForcedFirst(w, impl.Type{}, list, v)
		want := pathTexts(forced)
		if len(forced) != 4 || pathTexts(first) != "v v.0 v.0.0 v.1" || pathsMemory(forced, known) || pathsMemory(first, known) {
			t.Errorf("ForcedPaths(%d) = %v, ForcedFirst = %v, or they share memory", pick, forced, first)
		}
		// What is written into results is not seen in later results.
		for i := range forced {
			forced[i] = append(forced[i][:0], 99)
			first[i] = append(first[i][:0], 99)
		}
		if pathTexts(impl.ForcedPaths(w, impl.Type{}, list, pick, v)) != want || pathTexts(impl.ForcedFirst(w, impl.Type{}, list, v)) != "v v.0 v.0.0 v.1" {
			t.Errorf("later results of %d are changed", pick)
		}
	}
	m.Kids[0], m.Kids[1].Kids[0] = number(9), number(9)
	need[0] = 99
	for i, want := range [][]int{{}, {1}, {0}} {
		if !slices.Equal(paths[i], want) || !slices.Equal(paths[i][len(want):cap(paths[i])], make([]int, cap(paths[i])-len(want))) {
			t.Errorf("a path is changed: %v", paths[i])
		}
	}
	if impl.FormatClauses(w, impl.Type{}, list) != text || spare[4].Guard != equal(5, 5) || impl.FormatWorld(w) != optWorld || impl.FormatValue(w, impl.Type{}, v) != "Pair(Som(1),Som(3))" || len(paths[:4][3]) != 0 {
		t.Errorf("arguments are changed: %v, %v", spare, v)
	}
}
