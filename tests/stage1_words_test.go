package tests

import (
	"fmt"
	"math"
	"testing"

	"loop.example/g01127/impl"
)

func TestConstants(t *testing.T) {
	if impl.Width != 6 || impl.Top != 63 || impl.MaxNodes != 24 {
		t.Error("constants", impl.Width, impl.Top, impl.MaxNodes)
	}
}

func TestApplyOpForAllWords(t *testing.T) {
	for _, op := range oneOperand {
		for a := range 64 {
			if n, ok := impl.ApplyOp(op, a, 0); !ok || n != opValue(op, a, 0) {
				t.Errorf("%s %d is %d, %v", op, a, n, ok)
			}
		}
	}
	for _, op := range twoOperands {
		for a := range 64 {
			for b := range 64 {
				if n, ok := impl.ApplyOp(op, a, b); !ok || n != opValue(op, a, b) {
					t.Errorf("%s %d %d is %d, %v", op, a, b, n, ok)
				}
			}
		}
	}
}

func TestApplyOpByHand(t *testing.T) {
	for _, c := range []struct {
		op      string
		a, b, n int
	}{
		{"not", 0, 0, 63}, {"not", 63, 0, 0}, {"not", 5, 0, 58},
		{"neg", 0, 0, 0}, {"neg", 1, 0, 63}, {"neg", 63, 0, 1}, {"neg", 32, 0, 32},
		{"add", 60, 6, 2}, {"add", 63, 63, 62}, {"add", 0, 63, 63},
		{"sub", 1, 3, 62}, {"sub", 0, 63, 1}, {"sub", 3, 3, 0},
		{"mul", 63, 63, 1}, {"mul", 8, 8, 0}, {"mul", 13, 5, 1},
		{"and", 12, 10, 8}, {"or", 12, 10, 14}, {"xor", 12, 10, 6},
		{"shl", 5, 4, 16}, {"shl", 1, 5, 32}, {"shl", 63, 6, 0}, {"shl", 63, 63, 0}, {"shl", 63, 0, 63}, {"shl", 1, 32, 0},
		{"shr", 63, 5, 1}, {"shr", 63, 6, 0}, {"shr", 63, 63, 0}, {"shr", 5, 1, 2}, {"shr", 32, 32, 0},
		{"less", 2, 3, 1}, {"less", 3, 3, 0}, {"less", 63, 0, 0}, {"eq", 63, 63, 1}, {"eq", 0, 63, 0},
	} {
		if n, ok := impl.ApplyOp(c.op, c.a, c.b); !ok || n != c.n {
			t.Errorf("%s %d %d is %d, %v", c.op, c.a, c.b, n, ok)
		}
	}
}

func TestApplyOpFails(t *testing.T) {
	fails := func(op string, a int, b int) {
		if n, ok := impl.ApplyOp(op, a, b); ok || n != 0 {
			t.Errorf("%q %d %d is %d, %v", op, a, b, n, ok)
		}
	}
	for _, word := range []int{-1, 64, math.MinInt, math.MaxInt} {
		for _, op := range twoOperands {
			fails(op, word, 1)
			fails(op, 1, word)
		}
		for _, op := range oneOperand {
			fails(op, word, 0)
			fails(op, 1, word)
		}
	}
	for _, op := range oneOperand {
		fails(op, 1, 1)
		fails(op, 0, 63)
	}
	for _, op := range []string{"", "in", "const", "mov", "set", "ADD", "add ", "addi", "x0", "\xff"} {
		fails(op, 0, 0)
		fails(op, 1, 2)
	}
}

func TestIsExpr(t *testing.T) {
	for _, e := range [][]node{
		{in(0)}, {in(1)}, {constant(0)}, {constant(63)},
		{in(0), one("not", 0)}, {in(1), one("neg", 0)}, {in(0), two("add", 0, 0)},
		{in(1), in(0), two("sub", 0, 1)}, {in(1), in(0), two("sub", 1, 0)},
		{in(0), in(0), two("eq", 0, 1)},
		chain(24), doubling(24),
	} {
		if !impl.IsExpr(e) {
			t.Error("refused", e)
		}
	}
	for _, op := range twoOperands {
		if !impl.IsExpr([]node{in(0), constant(0), two(op, 0, 1)}) {
			t.Error("refused", op)
		}
	}
	for _, e := range invalidExprs() {
		if impl.IsExpr(e) {
			t.Error("taken", e)
		}
	}
}

// invalidExprs returns lists of nodes each of which breaks one rule of an expression.
func invalidExprs() [][]node {
	list := [][]node{
		nil, {}, chain(25), doubling(25), make([]node, 1000), {{}}, {{Op: "IN"}}, {{Op: "x0"}},
		{in(0), in(1)}, {in(0), in(1), one("not", 0)}, {in(0), in(1), one("not", 1)},
		{in(0), one("not", 0), two("add", 0, 0)},
		{in(0), two("add", 0, 1)}, {in(0), two("add", 1, 0)}, {in(0), one("not", 1)}, {one("not", 0)}, {two("add", 0, 0)},
		{in(0), one("not", 2), one("not", 1)}, {two("mul", 1, 1), in(0), one("not", 0)},
	}
	for _, bad := range []int{-1, 64, math.MinInt, math.MaxInt} {
		list = append(list,
			[]node{in(bad)}, []node{constant(bad)},
			[]node{in(0), one("not", bad)}, []node{in(0), two("add", bad, 0)}, []node{in(0), two("add", 0, bad)},
			[]node{in(0), {Op: "neg", B: bad}}, []node{in(0), {Op: "neg", Value: bad}}, []node{in(0), {Op: "add", Value: bad}},
			[]node{{Op: "in", A: bad}}, []node{{Op: "in", B: bad}}, []node{{Op: "const", A: bad}}, []node{{Op: "const", B: bad}},
		)
	}
	return append(list, []node{in(2)}, []node{in(0), {Op: "not", B: 1}}, []node{in(0), {Op: "not", Value: 1}},
		[]node{in(0), in(1), {Op: "add", A: 0, B: 1, Value: 1}}, []node{{Op: "const", A: 1, Value: 3}},
		[]node{in(0), {Op: "const", A: 0, B: 1}, two("add", 0, 1)}, []node{in(0), {Op: "div", A: 0, B: 0}})
}

func TestValues(t *testing.T) {
	e := parsed(t, "add(x0,mul(x1,3))")
	if n, ok := impl.EvalExpr(e, 60, 2); !ok || n != 2 {
		t.Error("value", n, ok)
	}
	if list, ok := impl.ValuesOf(e, 60, 2); !ok || !sameNumbers(list, []int{60, 2, 3, 6, 2}) {
		t.Error("values", list, ok)
	}
	table, ok := impl.TableOf(e)
	if !ok || len(table) != 4096 || table[64*60+2] != 2 || table[64*2+60] != 54 {
		t.Error("table", len(table), ok)
	}
	for _, e := range [][]node{{in(0)}, {in(1)}, {constant(0)}, {constant(63)}} {
		list, ok := impl.ValuesOf(e, 5, 7)
		if !ok || !sameNumbers(list, nodeValues(e, 5, 7)) {
			t.Error("leaf", e, list)
		}
	}
}

func TestValuesOfManyExpressions(t *testing.T) {
	d := dice(1)
	for range 150 {
		e := d.expr(1 + d.below(24))
		table, ok := impl.TableOf(e)
		if !ok || len(table) != 4096 {
			t.Fatal("table fails", e)
		}
		for x0 := range 64 {
			for x1 := range 64 {
				want := nodeValues(e, x0, x1)
				if table[64*x0+x1] != want[len(want)-1] {
					t.Fatal("table", e, x0, x1)
				}
			}
		}
		x0, x1 := d.below(64), d.below(64)
		want := nodeValues(e, x0, x1)
		if list, ok := impl.ValuesOf(e, x0, x1); !ok || !sameNumbers(list, want) {
			t.Error("values", e, x0, x1, list)
		}
		if n, ok := impl.EvalExpr(e, x0, x1); !ok || n != want[len(want)-1] {
			t.Error("value", e, x0, x1, n)
		}
	}
}

func TestValuesFailForOtherWords(t *testing.T) {
	e := parsed(t, "add(x0,x1)")
	for _, bad := range []int{-1, 64, math.MinInt, math.MaxInt} {
		for _, x := range [][2]int{{bad, 0}, {0, bad}, {bad, bad}} {
			if n, ok := impl.EvalExpr(e, x[0], x[1]); ok || n != 0 {
				t.Error("value", x, n)
			}
			if list, ok := impl.ValuesOf(e, x[0], x[1]); ok || len(list) != 0 {
				t.Error("values", x, list)
			}
			// An input that does not occur has to be a word, too.
			if n, ok := impl.EvalExpr([]node{constant(5)}, x[0], x[1]); ok || n != 0 {
				t.Error("constant", x, n)
			}
		}
	}
}

func TestCounts(t *testing.T) {
	for _, c := range []struct {
		e          []node
		inputs     []int
		ops, depth int
		uses       []int
		tree       bool
	}{
		{[]node{in(0)}, []int{0}, 0, 0, []int{0}, true},
		{[]node{in(1)}, []int{1}, 0, 0, []int{0}, true},
		{[]node{constant(0)}, nil, 0, 0, []int{0}, true},
		{[]node{constant(63), one("not", 0)}, nil, 1, 1, []int{1, 0}, true},
		{parsed(t, "add(x0,mul(x1,3))"), []int{0, 1}, 2, 2, []int{1, 1, 1, 1, 0}, true},
		{parsed(t, "sub(x1,not(neg(x1)))"), []int{1}, 3, 3, []int{1, 1, 1, 1, 0}, true},
		{parsed(t, "sub(not(neg(x1)),x0)"), []int{0, 1}, 3, 3, []int{1, 1, 1, 1, 0}, true},
		{[]node{in(1), in(0), two("add", 1, 0)}, []int{0, 1}, 1, 1, []int{1, 1, 0}, true},
		{[]node{in(0), two("add", 0, 0)}, []int{0}, 1, 1, []int{2, 0}, false},
		{[]node{in(1), one("not", 0), two("eq", 0, 1)}, []int{1}, 2, 2, []int{2, 1, 0}, false},
		{[]node{in(1), in(1), two("xor", 0, 1)}, []int{1}, 1, 1, []int{1, 1, 0}, true},
		{chain(24), []int{0}, 23, 23, append(nodeOnes(23), 0), true},
	} {
		if list, ok := impl.InputsOf(c.e); !ok || !sameNumbers(list, c.inputs) {
			t.Error("inputs", c.e, list, ok)
		}
		if n, ok := impl.CountOps(c.e); !ok || n != c.ops {
			t.Error("ops", c.e, n, ok)
		}
		if n, ok := impl.DepthOf(c.e); !ok || n != c.depth {
			t.Error("depth", c.e, n, ok)
		}
		if list, ok := impl.UsesOf(c.e); !ok || !sameNumbers(list, c.uses) {
			t.Error("uses", c.e, list, ok)
		}
		if tree, ok := impl.IsTree(c.e); !ok || tree != c.tree {
			t.Error("tree", c.e, tree, ok)
		}
	}
}

func nodeOnes(n int) []int {
	var list []int
	for range n {
		list = append(list, 1)
	}
	return list
}

func TestCountsOfSharedNodes(t *testing.T) {
	e := doubling(24)
	if n, ok := impl.DepthOf(e); !ok || n != 23 {
		t.Error("depth", n, ok)
	}
	uses, ok := impl.UsesOf(e)
	if want := fmt.Sprint([]int{2, 2, 2}); !ok || len(uses) != 24 || fmt.Sprint(uses[:3]) != want || uses[23] != 0 {
		t.Error("uses", uses, ok)
	}
	if n, ok := impl.CountOps(e); !ok || n != 23 {
		t.Error("ops", n, ok)
	}
}
