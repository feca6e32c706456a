package tests

import (
	"fmt"
	"math"
	"math/rand/v2"
	"slices"
	"strings"
	"testing"

	"loop.example/matchcompiler/impl"
)

// ends is a node that leads to no other.
func ends(op, clause int) impl.Node { return impl.Node{Op: op, Clause: clause, Else: -1} }

// leads is a TreeSwitch on the whole value that leads to these places, for the constructors from 0 on.
func leads(places ...int) impl.Node {
	node := ends(impl.TreeSwitch, 0)
	for i, place := range places {
		node.Edges = append(node.Edges, impl.Edge{Ctor: i, To: place})
	}
	return node
}

// otherwise is a node with a place for Else.
func otherwise(node impl.Node, place int) impl.Node {
	node.Else = place
	return node
}

func equalNodes(a, b []impl.Node) bool {
	sameBind := func(x, y impl.PathBind) bool { return x.Var == y.Var && slices.Equal(x.Path, y.Path) }
	return slices.EqualFunc(a, b, func(x, y impl.Node) bool {
		same := x.Op == y.Op && x.Clause == y.Clause && x.Else == y.Else && slices.Equal(x.Path, y.Path)
		return same && slices.EqualFunc(x.Binds, y.Binds, sameBind) && slices.Equal(x.Edges, y.Edges)
	})
}

// nodeMemory reports whether lists of nodes have a place in common with each other or with what is known.
func nodeMemory(list []impl.Node, known map[any]bool) bool {
	shared := taken(list, known)
	for _, node := range list {
		shared = taken(node.Binds, known) || taken(node.Path, known) || taken(node.Edges, known) || shared
		for _, b := range node.Binds {
			shared = taken(b.Path, known) || shared
		}
	}
	return shared
}

// nodesOf are the nodes of a finite tree: one for each tree that is different from all before it.
func nodesOf(x impl.Tree) []impl.Node {
	var known []impl.Tree
	var list []impl.Node
	var placeOf func(x impl.Tree) int
	placeOf = func(x impl.Tree) int {
		node := impl.Node{Op: x.Op, Clause: x.Clause, Binds: x.Binds, Path: x.Path, Else: -1}
		for _, b := range x.Branches {
			node.Edges = append(node.Edges, impl.Edge{Ctor: b.Ctor, N: b.N, M: b.M, To: placeOf(b.Tree)})
		}
		for _, rest := range x.Else {
			node.Else = placeOf(rest)
		}
		place := slices.IndexFunc(known, func(y impl.Tree) bool { return equalTrees(x, y) })
		if place < 0 {
			place = len(list)
			known, list = append(known, x), append(list, node)
		}
		return place
	}
	placeOf(x)
	return list
}

// treeAt is the tree for which a node of a list stands, and its number of nodes; without the tree if there are more than 300.
func treeAt(list []impl.Node, place int, sizes map[int]int) (impl.Tree, int) {
	node := list[place]
	parts := []int{}
	for _, e := range node.Edges {
		parts = append(parts, e.To)
	}
	if node.Else >= 0 {
		parts = append(parts, node.Else)
	}
	size, known := sizes[place]
	if !known {
		size = 1
		for _, part := range parts {
			_, n := treeAt(list, part, sizes)
			size = min(size+n, 1000)
		}
		sizes[place] = size
	}
	if size > 300 {
		return impl.Tree{}, size
	}
	x := impl.Tree{Op: node.Op, Clause: node.Clause, Binds: node.Binds, Path: node.Path}
	for i, part := range parts {
		below, _ := treeAt(list, part, sizes)
		if i < len(node.Edges) {
			e := node.Edges[i]
			x.Branches = append(x.Branches, impl.Branch{Ctor: e.Ctor, N: e.N, M: e.M, Tree: below})
		} else {
			x.Else = []impl.Tree{below}
		}
	}
	return x, size
}

// nodeLines are the lines of nodes.
func nodeLines(list []impl.Node) string {
	var text strings.Builder
	for i, node := range list {
		fmt.Fprintf(&text, "%d %s", i, []string{"fail", "leaf", "switch"}[node.Op])
		switch node.Op {
		case 1:
			fmt.Fprintf(&text, " %d", node.Clause)
		case 2:
			text.WriteString(" v")
			for _, place := range node.Path {
				fmt.Fprintf(&text, ".%d", place)
			}
		}
		for _, e := range node.Edges {
			if node.Op != 0 {
				fmt.Fprintf(&text, " %d:%d-%d>%d", e.Ctor, e.N, e.M, e.To)
			}
		}
		if node.Op != 0 && node.Else != -1 {
			fmt.Fprintf(&text, " else %d", node.Else)
		}
		text.WriteString("\n")
	}
	return text.String()
}

// checkNoNodes checks that nodes are not valid.
func checkNoNodes(t *testing.T, name string, list []impl.Node) {
	t.Helper()
	x, ok := impl.ExpandNodes(list)
	if impl.NodesValid(list) || ok || !equalTrees(x, impl.Tree{}) || impl.FormatNodes(list) != "" {
		t.Errorf("%s: NodesValid = %v, ExpandNodes = %v, %v, FormatNodes = %q", name, impl.NodesValid(list), x, ok, impl.FormatNodes(list))
	}
}

// checkNodes checks what valid nodes expand to, and their lines.
func checkNodes(t *testing.T, name string, list []impl.Node) (impl.Tree, bool) {
	t.Helper()
	if !impl.NodesValid(list) || impl.FormatNodes(list) != nodeLines(list) {
		t.Fatalf("%s: NodesValid = %v, FormatNodes =\n%snot\n%s", name, impl.NodesValid(list), impl.FormatNodes(list), nodeLines(list))
	}
	x, ok := impl.ExpandNodes(list)
	want, size := treeAt(list, len(list)-1, map[int]int{})
	if ok != (size <= 300) || !equalTrees(x, want) {
		t.Fatalf("%s: ExpandNodes of\n%s= %v, %v, not %v, which has %d nodes", name, nodeLines(list), x, ok, want, size)
	}
	known := map[any]bool{}
	if nodeMemory(list, known) || treeMemory(x, known) {
		t.Fatalf("%s: the tree of\n%sshares memory with the nodes or with itself", name, nodeLines(list))
	}
	return x, ok
}

// checkShared checks the nodes of a tree, and that they expand to it.
func checkShared(t *testing.T, name string, x impl.Tree) []impl.Node {
	t.Helper()
	list, ok := impl.ShareTree(x)
	want := nodesOf(x)
	if !ok || !equalNodes(list, want) {
		t.Fatalf("%s: ShareTree = %v, %v, not %v", name, list, ok, want)
	}
	if nodeMemory(list, map[any]bool{}) {
		t.Fatalf("%s: two lists of the nodes share memory", name)
	}
	back, ok := checkNodes(t, name, list)
	if !ok || !equalTrees(back, x) {
		t.Fatalf("%s: ExpandNodes = %v, %v, not %v", name, back, ok, x)
	}
	return list
}

// checkNotShared checks that a tree has no nodes.
func checkNotShared(t *testing.T, name string, x impl.Tree) {
	t.Helper()
	if list, ok := impl.ShareTree(x); ok || len(list) != 0 {
		t.Errorf("%s: ShareTree = %d nodes, %v", name, len(list), ok)
	}
}

func TestNodesValid(t *testing.T) {
	fail, end := ends(impl.TreeFail, 0), ends(impl.TreeLeaf, 0)
	strange := impl.Node{Op: impl.TreeFail, Clause: math.MinInt, Binds: []impl.PathBind{{Var: -9, Path: []int{-1}}, {Var: -9}}, Path: []int{math.MaxInt, -3}, Edges: []impl.Edge{{Ctor: -7, N: 5, M: math.MinInt}, {Ctor: -7, N: 5, M: math.MinInt}}, Else: 0}
	chain := []impl.Node{fail}
	for i := range 299 {
		chain = append(chain, leads(i))
	}
	for name, list := range map[string][]impl.Node{"fail": {fail}, "leaf": {end}, "switch": {leads()}, "nodes that lead to nothing": {end, fail, end}, "the node before": {fail, leads(0), leads(1, 1), otherwise(end, 2)}, "the first node": {fail, end, leads(0), otherwise(end, 0)}, "both": {fail, end, otherwise(leads(1, 0), 0)}, "ten edges": {fail, leads(0, 0, 0, 0, 0, 0, 0, 0, 0, 0)}, "ten edges and Else": {fail, otherwise(leads(0, 0, 0, 0, 0, 0, 0, 0, 0, 0), 0)}, "strange fields": {end, strange, leads(1)}, "300 nodes": chain, "300 nodes that are equal": slices.Repeat([]impl.Node{fail}, 300)} {
		if _, ok := checkNodes(t, name, list); !ok {
			t.Errorf("%s: ExpandNodes returns false", name)
		}
	}
}

func TestInvalidNodes(t *testing.T) {
	fail, end := ends(impl.TreeFail, 0), ends(impl.TreeLeaf, 0)
	checkNoNodes(t, "no nodes", nil)
	checkNoNodes(t, "no nodes", []impl.Node{})
	checkNoNodes(t, "301 nodes", slices.Repeat([]impl.Node{fail}, 301))
	checkNoNodes(t, "many nodes", slices.Repeat([]impl.Node{end}, 100000))
	checkNoNodes(t, "the zero value", make([]impl.Node, 1))
	bad := map[string]impl.Node{"eleven edges": leads(0, 0, 0, 0, 0, 0, 0, 0, 0, 0, 0), "many edges": leads(make([]int, 50000)...), "a leaf with eleven edges": {Op: impl.TreeLeaf, Edges: make([]impl.Edge, 11), Else: -1}}
	for _, op := range []int{-1, 3, 4, math.MinInt, math.MaxInt} {
		bad[fmt.Sprint("the kind ", op)] = ends(op, 0)
	}
	// The node is the third one of four.
	for _, place := range []int{-1, 2, 3, 4, 300, math.MinInt, math.MaxInt} {
		bad[fmt.Sprint("an edge to ", place)] = leads(place)
		bad[fmt.Sprint("edges to 0, 1 and ", place)] = leads(0, 1, place)
		bad[fmt.Sprint("edges to ", place, " and 0")] = leads(place, 0)
		fails := leads(place)
		fails.Op = impl.TreeFail
		bad[fmt.Sprint("fail with an edge to ", place)] = fails
		if place != -1 {
			bad[fmt.Sprint("Else at ", place)] = otherwise(end, place)
			bad[fmt.Sprint("Else at ", place, " of a switch")] = otherwise(leads(0, 1), place)
			bad[fmt.Sprint("Else at ", place, " of fail")] = otherwise(fail, place)
		}
	}
	bad["Else at -2"] = otherwise(end, -2)
	for name, node := range bad {
		// Also where nothing leads to it.
		checkNoNodes(t, name, []impl.Node{fail, end, node, leads(0, 1)})
		checkNoNodes(t, name, []impl.Node{fail, end, node, leads(2)})
		checkNoNodes(t, name, []impl.Node{fail, end, node})
	}
	for name, node := range map[string]impl.Node{"an edge to itself": leads(0), "Else at itself": otherwise(end, 0), "an edge behind it": leads(1), "Else behind it": otherwise(end, 1)} {
		checkNoNodes(t, name, []impl.Node{node})
		checkNoNodes(t, name, []impl.Node{node, fail, leads(0)})
	}
}

func TestNodesOfClauses(t *testing.T) {
	var first impl.Type
	for _, c := range []struct {
		world   string
		t       impl.Type
		clauses string
		lines   [picks]string // with a slash in place of each line break; one that is empty is that of PickFirst
	}{
		{"", intType, "", [3]string{"0 fail"}}, {"", intType, "_", [3]string{"0 leaf 0"}}, {"", intType, "_/a", [3]string{"0 leaf 0"}}, {"", intType, "3", [3]string{"0 fail/1 leaf 0/2 switch v -1:0-2>0 -1:3-3>1 -1:4-9>0"}}, {"", intType, "2-5/4-7", [3]string{"0 fail/1 leaf 0/2 leaf 1/3 switch v -1:0-1>0 -1:2-3>1 -1:4-5>1 -1:6-7>2 -1:8-9>0"}}, {"", intType, "0-9/3", [3]string{"0 leaf 0/1 switch v -1:0-2>0 -1:3-3>0 -1:4-9>0"}},
		// A guard that fails leads to nodes that others lead to.
		{"", intType, "a a<3/_", [3]string{"0 leaf 1/1 leaf 0 else 0"}}, {"", intType, "a a<3/b b=5/c", [3]string{"0 leaf 2/1 leaf 1 else 0/2 leaf 0 else 1"}}, {"", intType, "5/a a<7/4-6", [3]string{"0 fail/1 leaf 1 else 0/2 leaf 2/3 leaf 1 else 2/4 leaf 0/5 switch v -1:0-3>1 -1:4-4>3 -1:5-5>4 -1:6-6>3 -1:7-9>1"}}, {"", intType, "a a<3/5", [3]string{"0 fail/1 leaf 1/2 switch v -1:0-4>0 -1:5-5>1 -1:6-9>0/3 leaf 0 else 2"}},
		{listWorld, first, "Cons(3,a)/_", [3]string{"0 leaf 1/1 leaf 0/2 switch v.0 -1:0-2>0 -1:3-3>1 -1:4-9>0/3 switch v 0:0-0>0 1:0-0>2"}}, {listWorld, first, "Cons(_,Cons(_,Cons(2,_)))", [3]string{"0 fail/1 leaf 0/2 switch v.1.1.0 -1:0-1>0 -1:2-2>1 -1:3-9>0/3 switch v.1.1 0:0-0>0 1:0-0>2/4 switch v.1 0:0-0>0 1:0-0>3/5 switch v 0:0-0>0 1:0-0>4"}},
		// Two leaves for a clause with other variables, or the same ones at other paths.
		{optWorld, first, "(Pair(Som(a),_)|Pair(_,Som(a)))", [3]string{"0 fail/1 leaf 0/2 switch v.1 0:0-0>0 1:0-0>1/3 leaf 0/4 switch v.0 0:0-0>2 1:0-0>3/5 switch v 0:0-0>4"}}, {optWorld, first, "Pair(Non,Non)/Pair(_,Som(a))/_", [3]string{"0 leaf 0/1 leaf 1/2 switch v.1 0:0-0>0 1:0-0>1/3 leaf 2/4 switch v.1 0:0-0>3 1:0-0>1/5 switch v.0 0:0-0>2 1:0-0>4/6 switch v 0:0-0>5", "0 leaf 0/1 leaf 2/2 switch v.0 0:0-0>0 1:0-0>1/3 leaf 1/4 switch v.1 0:0-0>2 1:0-0>3/5 switch v 0:0-0>4", ""}},
		// A TreeSwitch with all that is below it.
		{optWorld, first, "(Pair(Non,Non)|Pair(Som(_),Non))", [3]string{"0 leaf 0/1 fail/2 switch v.1 0:0-0>0 1:0-0>1/3 switch v.0 0:0-0>2 1:0-0>2/4 switch v 0:0-0>3"}}, {optWorld, first, "(Pair(Non,a)|Pair(Som(_),a@Non))", [3]string{"0 leaf 0/1 fail/2 switch v.1 0:0-0>0 1:0-0>1/3 switch v.0 0:0-0>0 1:0-0>2/4 switch v 0:0-0>3", "", ""}},
		{neverWorld, first, "May(_)/_", [3]string{"0 leaf 1/1 switch v 0:0-0>0 1:0-0>0"}}, {neverWorld, impl.Type{Data: 1}, "Never(_)", [3]string{"0 switch v"}}, {exprWorld, impl.Type{Index: 1}, "If(_,Num(a),_) a=3/Num(2)", [3]string{"0 fail/1 leaf 1/2 switch v.0 -1:0-1>0 -1:2-2>1 -1:3-9>0/3 leaf 0 else 0/4 switch v.1 0:0-0>3 2:0-0>0 3:0-0>0/5 switch v 0:0-0>2 2:0-0>0 3:0-0>4"}},
	} {
		w, _ := impl.ParseWorld(c.world)
		list := mustClauses(t, w, c.t, c.clauses)
		for pick, lines := range c.lines {
			if lines == "" {
				lines = c.lines[impl.PickFirst]
			}
			x, _ := impl.CompileClauses(w, c.t, list, pick)
			nodes := checkShared(t, c.clauses, x)
			if got := impl.FormatNodes(nodes); got != strings.ReplaceAll(lines, "/", "\n")+"\n" {
				t.Errorf("the nodes of %s with %d are\n%snot\n%s", c.clauses, pick, got, lines)
			}
		}
	}
}

func TestLeavesWithOtherVariables(t *testing.T) {
	w := mustWorld(t, optWorld)
	list := mustClauses(t, w, impl.Type{}, "(Pair(Som(a),_)|Pair(_,Som(a)))")
	x, _ := impl.CompileClauses(w, impl.Type{}, list, impl.PickFirst)
	nodes, ok := impl.ShareTree(x)
	bind := func(path ...int) impl.Node {
		return impl.Node{Op: impl.TreeLeaf, Binds: []impl.PathBind{{Path: path}}, Else: -1}
	}
	inner, outer := leads(0, 1), leads(2, 3)
	inner.Path, outer.Path = []int{1}, []int{0}
	want := []impl.Node{ends(impl.TreeFail, 0), bind(1, 0), inner, bind(0, 0), outer, leads(4)}
	if !ok || !equalNodes(nodes, want) {
		t.Errorf("ShareTree = %v, %v, not %v", nodes, ok, want)
	}
	for text, clause := range map[string]int{"Pair(Som(4),Som(5))": 0, "Pair(Non,Som(5))": 0, "Pair(Non,Non)": -1} {
		v := mustValue(t, w, impl.Type{}, text)
		i, binds, tests := impl.RunNodes(w, impl.Type{}, list, impl.PickFirst, v)
		if i != clause || len(binds) != clause+1 || tests < 2 || i == 0 && binds[0].Value.N != map[bool]int{true: 4, false: 5}[tests == 2] {
			t.Errorf("RunNodes(%s) = %d, %v, %d", text, i, binds, tests)
		}
	}
}

func TestTreesThatAreNotEqual(t *testing.T) {
	bind := func(v int, path ...int) impl.PathBind { return impl.PathBind{Var: v, Path: path} }
	kinds := []impl.Tree{{}, {Op: 1}, {Op: 2}, {Clause: 1}, {Clause: -1}, {Op: 1, Clause: 1}, {Op: 1, Clause: math.MaxInt}, {Op: 1, Clause: math.MinInt}}
	// Lists that have the same numbers, one after the other.
	for _, lists := range []struct {
		path  []int
		binds []impl.PathBind
	}{{[]int{0}, nil}, {[]int{0, 0}, nil}, {[]int{1}, nil}, {[]int{-1}, nil}, {[]int{1, 2}, nil}, {[]int{12}, nil}, {[]int{2, 1}, nil}, {[]int{1, 12}, nil}, {[]int{11, 2}, nil}, {[]int{112}, nil}, {[]int{1, -2}, nil}, {[]int{256}, nil}, {[]int{1 << 32}, nil}, {nil, []impl.PathBind{bind(0)}}, {nil, []impl.PathBind{bind(0, 0)}}, {nil, []impl.PathBind{bind(0, 1)}}, {nil, []impl.PathBind{bind(1)}}, {nil, []impl.PathBind{bind(1), bind(0)}}, {nil, []impl.PathBind{bind(0), bind(1)}}, {nil, []impl.PathBind{bind(0), bind(0)}}, {nil, []impl.PathBind{bind(0, 1, 0)}}, {nil, []impl.PathBind{bind(0, 0, 1)}}, {nil, []impl.PathBind{bind(0, 1), bind(0)}}, {nil, []impl.PathBind{bind(0), bind(1, 0)}}, {nil, []impl.PathBind{bind(-5, -1)}}, {[]int{0}, []impl.PathBind{bind(0)}}, {[]int{1, 0}, []impl.PathBind{bind(0)}}, {[]int{1}, []impl.PathBind{bind(0, 0)}}, {[]int{1}, []impl.PathBind{bind(0), bind(0)}}, {[]int{0}, []impl.PathBind{bind(0), bind(0, 0)}}} {
		kinds = append(kinds, impl.Tree{Binds: lists.binds, Path: lists.path}, impl.Tree{Op: 2, Binds: lists.binds, Path: lists.path})
	}
	branch := func(ctor, n, m int, x impl.Tree) impl.Branch {
		return impl.Branch{Ctor: ctor, N: n, M: m, Tree: x}
	}
	for _, list := range [][]impl.Branch{{branch(0, 0, 0, impl.Tree{})}, {branch(1, 0, 0, impl.Tree{})}, {branch(0, 1, 0, impl.Tree{})}, {branch(0, 0, 1, impl.Tree{})}, {branch(0, 0, 0, leaf(0))}, {branch(0, 0, 0, impl.Tree{}), branch(0, 0, 0, impl.Tree{})}, {branch(0, 0, 0, impl.Tree{}), branch(1, 0, 0, impl.Tree{})}, {branch(1, 0, 0, impl.Tree{}), branch(0, 0, 0, impl.Tree{})}, {branch(-1, -1, -1, impl.Tree{})}, {branch(-1, 0, 9, impl.Tree{})}, {branch(-1, 0, 4, impl.Tree{}), branch(-1, 5, 9, impl.Tree{})}} {
		kinds = append(kinds, impl.Tree{Branches: list}, withElse(impl.Tree{Branches: list}, impl.Tree{}), withElse(impl.Tree{Branches: list}, leaf(0)))
	}
	kinds = append(kinds, withElse(impl.Tree{}, impl.Tree{}), withElse(impl.Tree{}, leaf(0)), withElse(impl.Tree{}, withElse(impl.Tree{}, impl.Tree{})), fork(impl.Tree{}), impl.Tree{Path: []int{0}, Branches: []impl.Branch{{}}}, impl.Tree{Path: []int{0, 0, 0, 0}}, impl.Tree{Binds: []impl.PathBind{bind(0, 0, 0, 0, 0)}})
	for i, a := range kinds {
		for j, b := range kinds {
			both := fork(a, b)
			nodes := checkShared(t, fmt.Sprint(i, " and ", j), both)
			if same := nodes[len(nodes)-1].Edges[0].To == nodes[len(nodes)-1].Edges[1].To; same != (i == j) {
				t.Errorf("%v and %v are one node: %v", a, b, same)
			}
		}
	}
	// Without elements, slices that are nil and others are equal.
	empty := impl.Tree{Op: impl.TreeLeaf, Binds: []impl.PathBind{}, Path: []int{}, Branches: []impl.Branch{}, Else: []impl.Tree{}}
	if nodes := checkShared(t, "empty slices", fork(leaf(0), empty, leaf(0, bind(1)), leaf(0, impl.PathBind{Var: 1, Path: []int{}}))); len(nodes) != 3 {
		t.Errorf("empty slices are different from nil: %v", nodes)
	}
}

func TestSharedTrees(t *testing.T) {
	low := impl.Tree{Clause: 4}
	double := func(x impl.Tree) impl.Tree { return fork(x, x) }
	full := double(double(double(double(double(double(double(leaf(2))))))))
	for _, c := range []struct {
		x     impl.Tree
		lines string
	}{
		{impl.Tree{}, "0 fail/"}, {leaf(-12), "0 leaf -12/"}, {leaf(math.MaxInt), "0 leaf 9223372036854775807/"}, {fork(), "0 switch v/"}, {low, "0 fail/"}, {fork(low, impl.Tree{}), "0 fail/1 fail/2 switch v 0:0-0>0 1:0-0>1/"}, {impl.Tree{Op: 2, Path: []int{0, 12, -1, math.MinInt}}, "0 switch v.0.12.-1.-9223372036854775808/"}, {impl.Tree{Op: 1, Clause: 3, Path: []int{1}}, "0 leaf 3/"},
		// All branches come before Else, and all parts before the tree.
		{withElse(fork(leaf(0), leaf(1)), leaf(2)), "0 leaf 0/1 leaf 1/2 leaf 2/3 switch v 0:0-0>0 1:0-0>1 else 2/"}, {withElse(fork(leaf(0), leaf(1)), leaf(0)), "0 leaf 0/1 leaf 1/2 switch v 0:0-0>0 1:0-0>1 else 0/"}, {withElse(leaf(0), withElse(leaf(1), leaf(0))), "0 leaf 0/1 leaf 1 else 0/2 leaf 0 else 1/"}, {fork(fork(leaf(3)), leaf(3), fork(leaf(3), leaf(3)), fork(leaf(3))), "0 leaf 3/1 switch v 0:0-0>0/2 switch v 0:0-0>0 1:0-0>0/3 switch v 0:0-0>1 1:0-0>0 2:0-0>2 3:0-0>1/"}, {full, "0 leaf 2/1 switch v 0:0-0>0 1:0-0>0/2 switch v 0:0-0>1 1:0-0>1/3 switch v 0:0-0>2 1:0-0>2/4 switch v 0:0-0>3 1:0-0>3/5 switch v 0:0-0>4 1:0-0>4/6 switch v 0:0-0>5 1:0-0>5/7 switch v 0:0-0>6 1:0-0>6/"}, {fork(full.Branches[0].Tree, leaf(2)), "0 leaf 2/1 switch v 0:0-0>0 1:0-0>0/2 switch v 0:0-0>1 1:0-0>1/3 switch v 0:0-0>2 1:0-0>2/4 switch v 0:0-0>3 1:0-0>3/5 switch v 0:0-0>4 1:0-0>4/6 switch v 0:0-0>5 1:0-0>5/7 switch v 0:0-0>6 1:0-0>0/"},
		// Other kinds with parts are no decision trees of clauses, but trees.
		{withElse(impl.Tree{Branches: []impl.Branch{{Ctor: -3, N: -1, M: 20, Tree: leaf(1)}}}, leaf(2)), "0 leaf 1/1 leaf 2/2 fail/"}, {impl.Tree{Op: 1, Clause: 1, Branches: []impl.Branch{{Ctor: -3, N: -1, M: 20, Tree: leaf(1)}}}, "0 leaf 1/1 leaf 1 -3:-1-20>0/"}, {fork(slices.Repeat([]impl.Tree{leaf(5)}, 10)...), "0 leaf 5/1 switch v 0:0-0>0 1:0-0>0 2:0-0>0 3:0-0>0 4:0-0>0 5:0-0>0 6:0-0>0 7:0-0>0 8:0-0>0 9:0-0>0/"},
	} {
		nodes := checkShared(t, c.lines, c.x)
		if got := impl.FormatNodes(nodes); got != strings.ReplaceAll(c.lines, "/", "\n") {
			t.Errorf("the nodes of %v are\n%snot\n%s", c.x, got, c.lines)
		}
	}
}

func TestTreesWithoutNodes(t *testing.T) {
	bad := map[string]impl.Tree{"two trees as Else": withElse(leaf(0), leaf(1), leaf(1)), "a switch with two trees as Else": withElse(fork(leaf(0)), impl.Tree{}, impl.Tree{}), "fail with three trees as Else": withElse(impl.Tree{}, make([]impl.Tree, 3)...), "eleven branches": fork(make([]impl.Tree, 11)...), "eleven branches of a leaf": {Op: 1, Branches: make([]impl.Branch, 11)}, "eleven branches of fail": {Branches: make([]impl.Branch, 11)}, "200 branches": fork(make([]impl.Tree, 200)...)}
	for _, op := range []int{-1, 3, math.MinInt, math.MaxInt} {
		bad[fmt.Sprint("the kind ", op)] = impl.Tree{Op: op}
		other := fork(leaf(0))
		other.Op = op
		bad[fmt.Sprint("the kind ", op, " with parts")] = other
	}
	for name, x := range bad {
		checkNotShared(t, name, x)
		checkNotShared(t, name+" in a branch", fork(leaf(0), x))
		checkNotShared(t, name+" behind a guard", fork(leaf(0), withElse(leaf(1), x), leaf(0)))
		checkNotShared(t, name+" below fail", impl.Tree{Branches: []impl.Branch{{Tree: x}}})
	}
}

func TestSharedTreesAtTheLimitOfNodes(t *testing.T) {
	// A tree of 271, 281, or 291 equal leaves and the nodes above them.
	rows := func(rows int) impl.Tree {
		x := fork(slices.Repeat([]impl.Tree{leaf(1)}, 10)...)
		for n := rows - 1; n > 0; {
			var parts []impl.Tree
			for range min(n, 9) {
				parts = append(parts, fork(slices.Repeat([]impl.Tree{leaf(1)}, 10)...))
			}
			n -= len(parts)
			x = fork(append(parts, x)...)
		}
		return x
	}
	chain := impl.Tree{}
	for i := range 299 {
		if i%3 == 0 {
			chain = withElse(leaf(i), chain)
		} else {
			chain = fork(chain)
		}
	}
	size := impl.TreeSize(rows(26))
	more := rows(26)
	for ; size < 300; size++ {
		more = withElse(leaf(size), more)
	}
	for name, x := range map[string]impl.Tree{"a chain": chain, "equal leaves": more} {
		checkShared(t, name, x)
		if impl.TreeSize(x) != 300 {
			t.Errorf("%s has %d nodes", name, impl.TreeSize(x))
		}
		checkNotShared(t, name+" and one more", fork(x))
		checkNotShared(t, name+" and one more", withElse(leaf(0), x))
	}
	checkNotShared(t, "rows of equal leaves", rows(40))
}

func TestNodesOfHugeTrees(t *testing.T) {
	chain, shared := leaf(3), leaf(3)
	for range 300000 {
		chain = fork(chain)
	}
	for range 200 {
		shared = fork(shared, shared)
	}
	checkNotShared(t, "a deep tree", chain)
	checkNotShared(t, "a tree that shares its memory", shared)
	checkNotShared(t, "a wide tree", fork(make([]impl.Tree, 500000)...))
	kids := make([]impl.Branch, 2)
	kids[1].Tree = impl.Tree{Op: impl.TreeSwitch, Branches: kids}
	rest := make([]impl.Tree, 1)
	rest[0] = impl.Tree{Op: impl.TreeLeaf, Else: rest}
	for _, x := range []impl.Tree{kids[1].Tree, rest[0], fork(leaf(4), kids[1].Tree), withElse(leaf(2), fork(rest[0]))} {
		checkNotShared(t, "a tree inside of itself", x)
	}
	// Trees that share their memory are equal, and become new memory.
	path := []int{1, 2}
	part := impl.Tree{Op: impl.TreeSwitch, Path: path, Branches: []impl.Branch{{Tree: leaf(1, impl.PathBind{Path: path})}, {Tree: leaf(1, impl.PathBind{Path: path[:1]}, impl.PathBind{Var: 1, Path: path})}}}
	if nodes := checkShared(t, "one path in many places", fork(part, part, withElse(part, part))); len(nodes) != 5 {
		t.Errorf("one path in many places: %v", nodes)
	}
	long := impl.Tree{Op: impl.TreeSwitch, Path: make([]int, 300000)}
	nodes, ok := impl.ShareTree(fork(long, leaf(0, impl.PathBind{Path: long.Path}), long))
	if text := impl.FormatNodes(nodes); !ok || len(nodes) != 3 || !strings.HasPrefix(text, "0 switch v.0.0.0") || strings.Count(text, ".0") != 300000 {
		t.Errorf("a long path: %d nodes, %v, %d bytes", len(nodes), ok, len(text))
	}
}

func TestExpandNodes(t *testing.T) {
	fail := ends(impl.TreeFail, 0)
	for _, c := range []struct {
		nodes []impl.Node
		x     impl.Tree
	}{
		{[]impl.Node{fail}, impl.Tree{}}, {[]impl.Node{fail, ends(1, 4)}, leaf(4)}, {[]impl.Node{ends(1, 4), fail}, impl.Tree{}}, {[]impl.Node{ends(1, 1), ends(1, 2), leads(1, 0, 1)}, fork(leaf(2), leaf(1), leaf(2))}, {[]impl.Node{ends(1, 1), ends(1, 2), otherwise(leads(1, 0), 0)}, withElse(fork(leaf(2), leaf(1)), leaf(1))}, {[]impl.Node{ends(1, 1), otherwise(ends(1, 2), 0), leads(0, 1), leads(2, 1, 2)}, fork(fork(leaf(1), withElse(leaf(2), leaf(1))), withElse(leaf(2), leaf(1)), fork(leaf(1), withElse(leaf(2), leaf(1))))}, {[]impl.Node{ends(1, 3), otherwise(fail, 0)}, withElse(impl.Tree{}, leaf(3))},
		// Equal nodes may come twice, and not all nodes must be used.
		{[]impl.Node{ends(1, 1), ends(1, 1), leads(), leads(1, 0)}, fork(leaf(1), leaf(1))},
		{[]impl.Node{fail, {Op: 2, Clause: 7, Binds: []impl.PathBind{{Var: 3, Path: []int{4}}}, Path: []int{5}, Edges: []impl.Edge{{Ctor: -1, N: 3, M: 8}}, Else: -1}}, impl.Tree{Op: 2, Clause: 7, Binds: []impl.PathBind{{Var: 3, Path: []int{4}}}, Path: []int{5}, Branches: []impl.Branch{{Ctor: -1, N: 3, M: 8}}}},
	} {
		if x, ok := checkNodes(t, "nodes", c.nodes); !ok || !equalTrees(x, c.x) {
			t.Errorf("ExpandNodes of\n%s= %v, %v, not %v", nodeLines(c.nodes), x, ok, c.x)
		}
	}
}

func TestExpandTooManyNodes(t *testing.T) {
	// 1 + 10 * (1 + 10 * 2) = 211 nodes, and one for each node above them.
	base := []impl.Node{ends(1, 0), leads(0), leads(slices.Repeat([]int{1}, 10)...), leads(slices.Repeat([]int{2}, 10)...)}
	for above := range 120 {
		list := slices.Clone(base)
		for range above {
			list = append(list, otherwise(ends(1, 1), len(list)-1))
		}
		x, ok := checkNodes(t, "nodes above 211 others", list)
		if ok != (211+above <= 300) || ok && impl.TreeSize(x) != 211+above {
			t.Errorf("ExpandNodes with %d nodes above returns %v", above, ok)
		}
		// What is not part of the tree does not count.
		if _, ok := checkNodes(t, "nodes that nothing leads to", append(list, ends(1, 1), leads(0, len(list)))); !ok {
			t.Error("ExpandNodes counts nodes that nothing leads to")
		}
	}
	// Without the limit, there would be no end of nodes.
	doubled, wide := []impl.Node{ends(1, 0)}, []impl.Node{ends(0, 0)}
	for i := range 299 {
		doubled, wide = append(doubled, leads(i, i)), append(wide, otherwise(leads(slices.Repeat([]int{i}, 10)...), i))
		if _, ok := checkNodes(t, "two edges to each node", doubled); ok != (i < 7) {
			t.Fatalf("ExpandNodes of %d nodes with two edges returns %v", i+2, ok)
		}
		if _, ok := checkNodes(t, "ten edges to each node", wide); ok != (i < 2) {
			t.Fatalf("ExpandNodes of %d nodes with ten edges returns %v", i+2, ok)
		}
	}
}

func TestFormatNodes(t *testing.T) {
	edges := []impl.Edge{{Ctor: -1, N: 0, M: 4}, {Ctor: math.MinInt, N: -3, M: 12}, {Ctor: 3, N: 7, M: -7, To: 1}}
	list := []impl.Node{ends(0, 5), ends(1, -5), {Op: 0, Path: []int{1}, Edges: edges, Else: 1}, {Op: 1, Clause: 10, Path: []int{1}, Edges: edges, Else: 0}, {Op: 2, Clause: 3, Edges: edges[:1], Else: 3}, {Op: 2, Path: []int{2, 0, 11}, Binds: []impl.PathBind{{Var: 1}}, Edges: edges[2:], Else: -1}, {Op: 2, Path: []int{-4}, Else: 0}, {Op: 1, Clause: math.MaxInt, Binds: []impl.PathBind{{Var: 1, Path: []int{1}}}, Else: 6}, {Else: 3}, {Else: -1}, {Op: 1, Else: 9}}
	want := "0 fail\n1 leaf -5\n2 fail\n3 leaf 10 -1:0-4>0 -9223372036854775808:-3-12>0 3:7--7>1 else 0\n4 switch v -1:0-4>0 else 3\n5 switch v.2.0.11 3:7--7>1\n6 switch v.-4 else 0\n7 leaf 9223372036854775807 else 6\n8 fail\n9 fail\n10 leaf 0 else 9\n"
	if got := impl.FormatNodes(list); got != want {
		t.Errorf("FormatNodes =\n%snot\n%s", got, want)
	}
	for n := range list {
		if got := impl.FormatNodes(list[:n]); !strings.HasPrefix(want, got) || strings.Count(got, "\n") != n {
			t.Errorf("FormatNodes of %d nodes =\n%s", n, got)
		}
	}
}

// checkSharedClauses checks the nodes of the trees of clauses, what they choose, and returns how many nodes they are fewer.
func checkSharedClauses(t *testing.T, w []impl.Data, ty impl.Type, list []impl.Clause, values []impl.Value) (fewer, chosen int) {
	t.Helper()
	for pick := range picks {
		x, ok := impl.CompileClauses(w, ty, list, pick)
		if !ok {
			checkNoRun(t, "no tree", w, ty, list, pick, made(0))
			continue
		}
		nodes := checkShared(t, impl.FormatClauses(w, ty, list), x)
		fewer += impl.TreeSize(x) - len(nodes)
		for _, v := range values {
			i, binds, tests := impl.RunTree(w, ty, list, pick, v)
			k, others, count := impl.RunNodes(w, ty, list, pick, v)
			sameBind := func(x, y impl.Bind) bool { return x.Var == y.Var && impl.CompareValues(x.Value, y.Value) == 0 }
			if i != k || !slices.EqualFunc(binds, others, sameBind) || tests != count {
				t.Fatalf("%s: RunTree = %d, %v, %d, and RunNodes = %d, %v, %d", impl.FormatClauses(w, ty, list), i, binds, tests, k, others, count)
			}
			memory := []impl.Value{v}
			for _, b := range others {
				memory = append(memory, b.Value)
			}
			if shareMemory(memory) {
				t.Fatalf("%s: what variables stand for shares memory", impl.FormatClauses(w, ty, list))
			}
			if i >= 0 {
				chosen++
			}
		}
	}
	return fewer, chosen
}

func TestRandomSharedClauses(t *testing.T) {
	r := rand.New(rand.NewPCG(30, 30))
	fewer, chosen := 0, 0
	for range 800 {
		w, ty := randomUsed(r)
		list := randomCover(r, w, ty)
		if impl.ClausesValid(w, ty, list) {
			n, k := checkSharedClauses(t, w, ty, list, matchingValues(r, w, ty, list, nil))
			fewer, chosen = fewer+n, chosen+k
		}
	}
	if fewer < 4000 || chosen < 30000 {
		t.Errorf("only %d nodes are shared, and %d values choose a clause", fewer, chosen)
	}
}

// randomTree is a tree with few different parts, of any kinds.
func randomTree(r *rand.Rand, depth int) impl.Tree {
	x := impl.Tree{Op: r.IntN(3), Clause: r.IntN(2)}
	if r.IntN(4) == 0 {
		x.Path = slices.Clone([]int{0, 1, 0}[r.IntN(3):])
	}
	for range r.IntN(8) / 5 {
		x.Binds = append(x.Binds, impl.PathBind{Var: r.IntN(2), Path: slices.Clone([]int{0, 1, 0}[r.IntN(4):])})
	}
	if depth == 0 {
		return x
	}
	for range r.IntN(4) {
		x.Branches = append(x.Branches, impl.Branch{Ctor: r.IntN(3) - 1, N: r.IntN(5) / 4, M: r.IntN(5) / 4, Tree: randomTree(r, depth-1)})
	}
	if len(x.Branches) > 1 && r.IntN(2) == 0 {
		x.Branches = append(x.Branches, x.Branches[0])
	}
	if r.IntN(3) == 0 {
		x.Else = []impl.Tree{randomTree(r, depth-1)}
	}
	return x
}

func TestRandomSharedTrees(t *testing.T) {
	r := rand.New(rand.NewPCG(31, 31))
	large, fewer := 0, 0
	for range 4000 {
		x := randomTree(r, 1+r.IntN(6))
		if nodes, _ := treeSizes(x); nodes > 300 {
			large++
			checkNotShared(t, "a large tree", x)
			continue
		}
		list := checkShared(t, "a random tree", x)
		size, _ := treeSizes(x)
		fewer += size - len(list)
		// Other trees have other nodes.
		y := randomTree(r, 1+r.IntN(2))
		if nodes, ok := impl.ShareTree(y); !ok || equalNodes(nodes, list) != equalTrees(x, y) {
			t.Fatalf("%v and %v have nodes %v and %v", x, y, list, nodes)
		}
	}
	if large < 100 || fewer < 20000 {
		t.Errorf("only %d trees are large, and %d nodes are shared", large, fewer)
	}
}

// isNode reports whether a node may stand at a place of a list.
func isNode(node impl.Node, place int) bool {
	for _, e := range node.Edges {
		if e.To < 0 || e.To >= place {
			return false
		}
	}
	return node.Op >= 0 && node.Op <= 2 && len(node.Edges) <= 10 && node.Else >= -1 && node.Else < place
}

func TestRandomNodes(t *testing.T) {
	r := rand.New(rand.NewPCG(32, 32))
	invalid, large, fewer := 0, 0, 0
	for range 6000 {
		var list []impl.Node
		ok := true
		for place := range 1 + r.IntN(24) {
			x := randomTree(r, 0)
			node := impl.Node{Op: x.Op, Clause: x.Clause, Binds: x.Binds, Path: x.Path, Else: max(-1, r.IntN(2*place+1)-place-1)}
			for range r.IntN(4) {
				if place > 0 {
					to := max(r.IntN(place), r.IntN(place), r.IntN(place))
					node.Edges = append(node.Edges, impl.Edge{Ctor: r.IntN(3) - 1, N: r.IntN(2), M: r.IntN(2), To: to})
				}
			}
			switch r.IntN(120) {
			case 0:
				node.Op = r.IntN(8) - 3
			case 1:
				node.Else = r.IntN(place+5) - 2
			case 2:
				node.Edges = append(node.Edges, impl.Edge{To: r.IntN(place+5) - 2})
			case 3:
				node.Edges = slices.Repeat([]impl.Edge{{}}, 9+r.IntN(4))
			}
			ok = ok && isNode(node, place)
			list = append(list, node)
		}
		if !ok {
			invalid++
			checkNoNodes(t, "random nodes", list)
			continue
		}
		x, ok := checkNodes(t, "random nodes", list)
		if !ok {
			large++
			continue
		}
		// The nodes of the tree are those that are used, each once.
		again := checkShared(t, "the tree of random nodes", x)
		if len(again) > len(list) {
			t.Fatalf("the tree of %d nodes has %d nodes", len(list), len(again))
		}
		fewer += len(list) - len(again)
	}
	if invalid < 500 || large < 200 || fewer < 5000 {
		t.Errorf("only %d lists are not valid, %d trees are large, %d nodes are not used or equal to others", invalid, large, fewer)
	}
}

func TestSharingLeavesArguments(t *testing.T) {
	w := mustWorld(t, optWorld)
	const text = "Pair(Som((1|2)),c)/Pair(Som(a),_) a<3/Pair(_,Som(d)) d=3"
	list := mustClauses(t, w, impl.Type{}, text)
	x, _ := impl.CompileClauses(w, impl.Type{}, list, impl.PickFirst)
	same, _ := impl.CompileClauses(w, impl.Type{}, list, impl.PickFirst)
	nodes, ok := impl.ShareTree(x)
	again, _ := impl.ShareTree(x)
	back, _ := impl.ExpandNodes(nodes)
	twice, _ := impl.ExpandNodes(nodes)
	known := map[any]bool{}
	if !ok || treeMemory(x, known) || nodeMemory(nodes, known) || nodeMemory(again, known) || treeMemory(back, known) || treeMemory(twice, known) {
		t.Error("trees and nodes share memory")
	}
	// What is written into results is not seen in arguments, and not in later results.
	for i := range nodes {
		for j := range nodes[i].Binds {
			nodes[i].Binds[j].Path = append(nodes[i].Binds[j].Path[:0], 99)
		}
		nodes[i].Path = append(nodes[i].Path[:0], 99)
		nodes[i].Edges = append(nodes[i].Edges[:0], impl.Edge{})
	}
	back.Branches[0].Tree.Path[0] = 77
	if later, _ := impl.ShareTree(x); !equalTrees(x, same) || !equalNodes(later, again) || !equalTrees(twice, same) {
		t.Errorf("arguments or later results are changed: %v", x)
	}
	v := mustValue(t, w, impl.Type{}, "Pair(Som(2),Som(3))")
	i, binds, tests := impl.RunNodes(w, impl.Type{}, list, impl.PickMost, v)
	if i != 0 || len(binds) != 1 || tests != 3 {
		t.Fatalf("RunNodes = %d, %v, %d", i, binds, tests)
	}
	binds[0].Value.Kids[0].N = 99
	if impl.FormatClauses(w, impl.Type{}, list) != text || impl.FormatValue(w, impl.Type{}, v) != "Pair(Som(2),Som(3))" || impl.FormatWorld(w) != optWorld {
		t.Errorf("arguments are changed: %v, %v", list, v)
	}
	// Nodes behind the end of a list are not read or changed.
	spare := append(slices.Clone(again), impl.Node{Op: 9})
	if tree, ok := impl.ExpandNodes(spare[:len(again)]); !ok || !equalTrees(tree, same) || spare[len(again)].Op != 9 {
		t.Error("ExpandNodes reads behind the end of a list")
	}
}
