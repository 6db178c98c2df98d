package tests

import (
	"math"
	"reflect"
	"slices"
	"testing"

	"loop.example/g01127/impl"
)

func TestSubExpr(t *testing.T) {
	e := []node{in(0), in(1), constant(3), two("mul", 1, 2), two("sub", 1, 0), two("add", 3, 4)}
	for i, want := range [][]node{
		{in(0)}, {in(1)}, {constant(3)},
		{in(1), constant(3), two("mul", 0, 1)},
		{in(0), in(1), two("sub", 1, 0)},
		e,
	} {
		if f, ok := impl.SubExpr(e, i); !ok || !sameList(f, want) {
			t.Error("node", i, f, ok)
		}
	}
	for _, i := range []int{-1, 6, math.MinInt, math.MaxInt} {
		if f, ok := impl.SubExpr(e, i); ok || len(f) != 0 {
			t.Error("no node", i, f)
		}
	}
}

func TestSubExprHasTheValueOfItsNode(t *testing.T) {
	d := dice(2)
	for range 300 {
		e := d.expr(24)
		i := d.below(len(e))
		f, ok := impl.SubExpr(e, i)
		if !ok || !sameList(f, needed(e[:i+1])) {
			t.Fatal("node", i, e, f)
		}
		x0, x1 := d.below(64), d.below(64)
		values, _ := impl.ValuesOf(e, x0, x1)
		if n, ok := impl.EvalExpr(f, x0, x1); !ok || n != values[i] {
			t.Error("value", e, i, n)
		}
	}
}

func TestExpandExpr(t *testing.T) {
	for _, c := range []struct{ e, want []node }{
		{[]node{in(1)}, []node{in(1)}},
		{[]node{in(0), two("add", 0, 0)}, []node{in(0), in(0), two("add", 0, 1)}},
		{[]node{in(1), in(0), two("sub", 1, 0)}, []node{in(0), in(1), two("sub", 0, 1)}},
		{[]node{constant(0), one("not", 0), two("eq", 1, 0)}, []node{constant(0), one("not", 0), constant(0), two("eq", 1, 2)}},
	} {
		if f, ok := impl.ExpandExpr(c.e); !ok || !sameList(f, c.want) {
			t.Error("expanded", c.e, f, ok)
		}
	}
}

func TestExpandExprMeetsTheLimit(t *testing.T) {
	// The walk of four doublings comes to 31 nodes, that of three to 15; negations add one each.
	full := doubling(4)
	for len(full) < 13 {
		full = append(full, one("neg", len(full)-1))
	}
	if f, ok := impl.ExpandExpr(full); !ok || len(f) != 24 {
		t.Error("exactly MaxNodes", len(f), ok)
	}
	if f, ok := impl.ExpandExpr(append(full, one("neg", 12))); ok || len(f) != 0 {
		t.Error("one more", len(f), ok)
	}
	for _, e := range [][]node{doubling(5), doubling(24)} {
		if f, ok := impl.ExpandExpr(e); ok || len(f) != 0 {
			t.Error("too many", len(f), ok)
		}
	}
	if f, ok := impl.ExpandExpr(chain(24)); !ok || !sameList(f, chain(24)) {
		t.Error("chain", f, ok)
	}
}

// TestWalksOfManyNodesEndSoon would take hours if each call came to all 16 million nodes of the walk.
func TestWalksOfManyNodesEndSoon(t *testing.T) {
	for range 10000 {
		if f, ok := impl.ExpandExpr(doubling(24)); ok || len(f) != 0 {
			t.Fatal("expanded", len(f), ok)
		}
		if f, ok := impl.ShareExpr(doubling(24)); !ok || len(f) != 24 {
			t.Fatal("shared", len(f), ok)
		}
	}
}

func TestShareExpr(t *testing.T) {
	for _, c := range []struct{ e, want []node }{
		{[]node{constant(63)}, []node{constant(63)}},
		{parsed(t, "mul(add(x0,x1),add(x0,x1))"), []node{in(0), in(1), two("add", 0, 1), two("mul", 2, 2)}},
		{parsed(t, "mul(add(x0,x1),add(x1,x0))"), []node{in(0), in(1), two("add", 0, 1), two("add", 1, 0), two("mul", 2, 3)}},
		{parsed(t, "add(0,x0)"), []node{constant(0), in(0), two("add", 0, 1)}},
		{parsed(t, "add(1,x1)"), []node{constant(1), in(1), two("add", 0, 1)}},
		{parsed(t, "sub(not(not(3)),not(3))"), []node{constant(3), one("not", 0), one("not", 1), two("sub", 2, 1)}},
		{parsed(t, "sub(not(x0),neg(x0))"), []node{in(0), one("not", 0), one("neg", 0), two("sub", 1, 2)}},
		{[]node{in(1), in(0), two("sub", 1, 0)}, []node{in(0), in(1), two("sub", 0, 1)}},
		{doubling(24), doubling(24)},
	} {
		if f, ok := impl.ShareExpr(c.e); !ok || !sameList(f, c.want) {
			t.Error("shared", c.e, f, ok)
		}
	}
}

func TestFoldExpr(t *testing.T) {
	for _, c := range []struct{ from, to string }{
		{"x1", "x1"}, {"0", "0"}, {"63", "63"}, {"add(x0,0)", "add(x0,0)"}, {"mul(x1,0)", "mul(x1,0)"},
		{"add(x0,sub(1,3))", "add(x0,62)"}, {"add(sub(1,3),x0)", "add(62,x0)"},
		{"not(0)", "63"}, {"neg(1)", "63"}, {"not(neg(add(60,6)))", "1"},
		{"shl(63,6)", "0"}, {"shr(63,6)", "0"}, {"shl(1,5)", "32"}, {"less(2,3)", "1"}, {"eq(2,3)", "0"},
		{"add(add(x0,1),2)", "add(add(x0,1),2)"}, {"eq(not(x0),not(63))", "eq(not(x0),0)"},
		{"sub(x0,x0)", "sub(x0,x0)"}, {"mul(add(1,2),mul(x1,add(3,4)))", "mul(3,mul(x1,7))"},
	} {
		f, ok := impl.FoldExpr(parsed(t, c.from))
		if s, fine := impl.ExprText(f); !ok || !fine || s != c.to {
			t.Error(c.from, "becomes", s)
		}
	}
}

func TestFoldExprKeepsOrder(t *testing.T) {
	for _, c := range []struct{ e, want []node }{
		// The constant 1 is needed beside the one that is made of it, which stays at its place.
		{
			[]node{constant(1), in(1), two("add", 0, 0), two("sub", 1, 0), two("mul", 2, 3)},
			[]node{constant(1), in(1), constant(2), two("sub", 1, 0), two("mul", 2, 3)},
		},
		// Equal constants are not made one, and nodes in another order than that of the walk stay so.
		{
			[]node{in(1), constant(2), constant(2), in(0), two("add", 3, 1), two("sub", 0, 2), two("or", 5, 4)},
			[]node{in(1), constant(2), constant(2), in(0), two("add", 3, 1), two("sub", 0, 2), two("or", 5, 4)},
		},
		{
			[]node{constant(9), in(0), one("not", 0), two("xor", 1, 2), two("and", 3, 3)},
			[]node{in(0), constant(54), two("xor", 0, 1), two("and", 2, 2)},
		},
	} {
		if f, ok := impl.FoldExpr(c.e); !ok || !sameList(f, c.want) {
			t.Error("folded", c.e, f, ok)
		}
	}
}

// TestPromise1 holds what is shared, expanded and folded against texts and values told independently.
func TestPromise1(t *testing.T) {
	d := dice(3)
	for range 400 {
		e := d.expr(1 + d.below(12))
		checkShared(t, e)
		checkExpanded(t, e)
		checkFolded(t, e)
	}
	for range 100 {
		e := d.expr(24)
		checkFolded(t, e)
		f, ok := impl.ShareExpr(e)
		if !ok || !impl.IsExpr(f) {
			t.Fatal("shared", e, f)
		}
		checkSameValues(t, "shared", e, f)
	}
}

func checkShared(t *testing.T, e []node) {
	t.Helper()
	f, ok := impl.ShareExpr(e)
	if !ok || !impl.IsExpr(f) {
		t.Fatal("shared", e, f)
	}
	var want []string
	for _, text := range walkTexts(e, len(e)-1) {
		if !slices.Contains(want, text) {
			want = append(want, text)
		}
	}
	if !reflect.DeepEqual(listTexts(f), want) {
		t.Error("shared", e, f)
	}
	checkSameValues(t, "shared", e, f)
}

func checkExpanded(t *testing.T, e []node) {
	t.Helper()
	want := walkTexts(e, len(e)-1)
	f, ok := impl.ExpandExpr(e)
	if len(want) > impl.MaxNodes {
		if ok || len(f) != 0 {
			t.Error("too many nodes", e, f)
		}
		return
	}
	if tree, fine := impl.IsTree(f); !ok || !fine || !tree || !reflect.DeepEqual(listTexts(f), want) {
		t.Fatal("expanded", e, f)
	}
	checkSameValues(t, "expanded", e, f)
}

func checkFolded(t *testing.T, e []node) {
	t.Helper()
	f, ok := impl.FoldExpr(e)
	if !ok || !impl.IsExpr(f) {
		t.Fatal("folded", e, f)
	}
	if !sameList(f, foldedByHand(e)) {
		t.Error("folded", e, f)
	}
	for _, n := range f {
		parts := operands(n)
		if len(parts) > 0 && !slices.ContainsFunc(parts, func(p int) bool { return f[p].Op != "const" }) {
			t.Error("left to be folded", e, f)
		}
	}
	checkSameValues(t, "folded", e, f)
}

// foldedByHand makes the nodes that need no input constants, and leaves out what is needed no more.
func foldedByHand(e []node) []node {
	varies := make([]bool, len(e))
	folded := copyOf(e)
	values := nodeValues(e, 0, 0)
	for i, n := range e {
		varies[i] = n.Op == "in"
		for _, p := range operands(n) {
			varies[i] = varies[i] || varies[p]
		}
		if !varies[i] {
			folded[i] = constant(values[i])
		}
	}
	return needed(folded)
}

func TestPutInput(t *testing.T) {
	sum := parsed(t, "add(x0,mul(x1,3))")
	for _, c := range []struct {
		e    []node
		k    int
		f    []node
		want []node
	}{
		{sum, 0, []node{constant(0)}, []node{constant(0), in(1), constant(3), two("mul", 1, 2), two("add", 0, 3)}},
		{sum, 1, parsed(t, "not(x0)"), []node{in(0), one("not", 0), in(0), constant(3), two("mul", 1, 3), two("add", 2, 4)}},
		{sum, 1, parsed(t, "neg(x1)"), []node{in(1), one("neg", 0), in(0), constant(3), two("mul", 1, 3), two("add", 2, 4)}},
		{[]node{in(0)}, 0, parsed(t, "not(x0)"), parsed(t, "not(x0)")},
		{[]node{in(0)}, 1, parsed(t, "not(x0)"), []node{in(0)}},
		{[]node{constant(1)}, 1, parsed(t, "not(x0)"), []node{constant(1)}},
		// The constant 0 is no leaf of the input 0, nor 1 of the input 1.
		{parsed(t, "sub(0,1)"), 0, []node{in(1)}, parsed(t, "sub(0,1)")},
		{parsed(t, "sub(0,1)"), 1, []node{in(1)}, parsed(t, "sub(0,1)")},
		// Each leaf of the input becomes the one root of f.
		{parsed(t, "sub(x1,not(x1))"), 1, parsed(t, "not(5)"), []node{constant(5), one("not", 0), one("not", 1), two("sub", 1, 2)}},
		{doubling(2), 0, []node{in(1)}, []node{in(1), two("add", 0, 0)}},
	} {
		if g, ok := impl.PutInput(c.e, c.k, c.f); !ok || !sameList(g, c.want) {
			t.Error("put", c.e, c.k, c.f, g, ok)
		}
	}
}

func TestPutInputMeetsTheLimit(t *testing.T) {
	if g, ok := impl.PutInput(chain(13), 0, chain(12)); !ok || !sameList(g, chain(24)) {
		t.Error("exactly MaxNodes", len(g), ok)
	}
	if g, ok := impl.PutInput(chain(13), 0, chain(13)); ok || len(g) != 0 {
		t.Error("one more", len(g), ok)
	}
	if g, ok := impl.PutInput(chain(24), 1, chain(24)); !ok || !sameList(g, chain(24)) {
		t.Error("no such leaf", len(g), ok)
	}
	if g, ok := impl.PutInput(chain(24), 0, []node{in(1)}); !ok || len(g) != 24 || g[0] != in(1) {
		t.Error("a leaf for a leaf", g, ok)
	}
	if g, ok := impl.PutInput([]node{in(0)}, 0, doubling(24)); !ok || !sameList(g, doubling(24)) {
		t.Error("all for a leaf", g, ok)
	}
}

func TestPutInputFails(t *testing.T) {
	e := parsed(t, "add(x0,x1)")
	for _, k := range []int{-1, 2, math.MinInt, math.MaxInt} {
		if g, ok := impl.PutInput(e, k, e); ok || len(g) != 0 {
			t.Error("input", k, g)
		}
	}
	for _, bad := range invalidExprs() {
		// The expression that would not be used has to be one, too.
		for k := range 2 {
			if g, ok := impl.PutInput([]node{in(0)}, k, bad); ok || len(g) != 0 {
				t.Error("put", bad, g)
			}
			if g, ok := impl.PutInput(bad, k, e); ok || len(g) != 0 {
				t.Error("put into", bad, g)
			}
		}
	}
}

func TestPutInputHasTheValueOfBoth(t *testing.T) {
	d := dice(4)
	done := 0
	for range 300 {
		e, f, k := d.expr(10), d.expr(10), d.below(2)
		g, ok := impl.PutInput(e, k, f)
		if !ok || !impl.IsExpr(g) {
			t.Fatal("put", e, k, f, g)
		}
		for range 50 {
			x := [2]int{d.below(64), d.below(64)}
			y := x
			y[k], _ = impl.EvalExpr(f, x[0], x[1])
			p, _ := impl.EvalExpr(g, x[0], x[1])
			q, _ := impl.EvalExpr(e, y[0], y[1])
			if p != q {
				t.Fatal("value", e, k, f, g, x)
			}
			done++
		}
	}
	if done != 15000 {
		t.Error("values", done)
	}
}
