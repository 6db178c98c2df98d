package tests

import (
	"fmt"
	"math"
	"reflect"
	"testing"

	"loop.example/g01127/impl"
)

var extremes = []int{math.MinInt, math.MinInt + 1, -64, -1, 0, 1, 2, 23, 24, 63, 64, math.MaxInt - 1, math.MaxInt}

// exprCalls has a call of each function of chapter 1 that takes an expression; its results are what it returns.
func exprCalls(e []node, i int, j int) map[string][]any {
	calls := map[string][]any{}
	keep := func(name string, results ...any) { calls[name] = results }
	n, ok := impl.EvalExpr(e, i, j)
	keep("EvalExpr", n, ok)
	list, ok := impl.ValuesOf(e, i, j)
	keep("ValuesOf", list, ok)
	list, ok = impl.TableOf(e)
	keep("TableOf", list, ok)
	list, ok = impl.InputsOf(e)
	keep("InputsOf", list, ok)
	n, ok = impl.CountOps(e)
	keep("CountOps", n, ok)
	n, ok = impl.DepthOf(e)
	keep("DepthOf", n, ok)
	list, ok = impl.UsesOf(e)
	keep("UsesOf", list, ok)
	tree, ok := impl.IsTree(e)
	keep("IsTree", tree, ok)
	f, ok := impl.SubExpr(e, i)
	keep("SubExpr", f, ok)
	f, ok = impl.ExpandExpr(e)
	keep("ExpandExpr", f, ok)
	f, ok = impl.ShareExpr(e)
	keep("ShareExpr", f, ok)
	f, ok = impl.FoldExpr(e)
	keep("FoldExpr", f, ok)
	f, ok = impl.PutInput(e, i, []node{in(1), one("not", 0)})
	keep("PutInput", f, ok)
	f, ok = impl.PutInput([]node{in(0), one("not", 0)}, i, e)
	keep("PutInput of it", f, ok)
	f, ok = impl.PutInput(e, i, e)
	keep("PutInput twice", f, ok)
	s, ok := impl.ExprText(e)
	keep("ExprText", s, ok)
	return calls
}

func isZero(x any) bool {
	v := reflect.ValueOf(x)
	return v.Kind() == reflect.Slice && v.Len() == 0 || v.IsZero()
}

func checkZero(t *testing.T, name string, results []any, about any) {
	t.Helper()
	for _, x := range results {
		if !isZero(x) {
			t.Errorf("%s of %v returns %v", name, about, results)
		}
	}
}

// TestPromise11InvalidExpressions has lists that are no expressions: every result is zero.
func TestPromise11InvalidExpressions(t *testing.T) {
	for _, e := range invalidExprs() {
		before := copyOf(e)
		for _, i := range extremes {
			for _, j := range []int{0, i} {
				for name, results := range exprCalls(e, i, j) {
					checkZero(t, name, results, e)
				}
			}
		}
		if !sameList(e, before) {
			t.Error("changed", before, e)
		}
	}
}

// TestPromise11ExtremeNumbers has expressions with numbers of all sizes: what fails is zero.
func TestPromise11ExtremeNumbers(t *testing.T) {
	for _, e := range [][]node{{in(0)}, {constant(0)}, doubling(2), doubling(24), chain(24), parsed(t, "add(x0,mul(x1,3))")} {
		for _, i := range extremes {
			for _, j := range extremes {
				for name, results := range exprCalls(e, i, j) {
					if results[len(results)-1] == false {
						checkZero(t, name, results, e)
					}
				}
			}
		}
	}
	for _, a := range extremes {
		for _, b := range extremes {
			for _, op := range append([]string{"", "in", "const", "other"}, append(oneOperand, twoOperands...)...) {
				n, ok := impl.ApplyOp(op, a, b)
				if !ok && n != 0 || n < 0 || n > 63 {
					t.Error(op, a, b, n, ok)
				}
			}
		}
	}
}

// TestPromise11RandomNodes has lists of nodes of all sorts, most of them no expressions.
func TestPromise11RandomNodes(t *testing.T) {
	d := dice(6)
	ops := append([]string{"", "in", "const", "other"}, append(oneOperand, twoOperands...)...)
	number := func() int {
		if d.below(3) == 0 {
			return extremes[d.below(len(extremes))]
		}
		return d.below(3)
	}
	for range 5000 {
		e := make([]node, d.below(5))
		for i := range e {
			e[i] = node{Op: ops[d.below(len(ops))], A: number(), B: number(), Value: d.below(2) * number()}
		}
		before := copyOf(e)
		valid := impl.IsExpr(e)
		for name, results := range exprCalls(e, number(), number()) {
			if !valid || results[len(results)-1] == false {
				checkZero(t, name, results, e)
			}
		}
		if !sameList(e, before) {
			t.Error("changed", before, e)
		}
	}
}

// TestPromise11ArgumentsStay has room behind the expression, and overwrites and grows every result.
func TestPromise11ArgumentsStay(t *testing.T) {
	for _, e := range [][]node{
		{in(0)}, doubling(3), doubling(24), chain(24), parsed(t, "add(x0,sub(1,3))"),
		{in(1), constant(2), in(0), two("add", 2, 1), two("sub", 0, 3)},
		{in(1)}, {constant(0)}, parsed(t, "neg(5)"),
	} {
		room := append(copyOf(e), node{Op: "behind", A: 7}, node{Op: "behind", B: 8})
		before := copyOf(room)
		for k := range 2 {
			first := fmt.Sprint(exprCalls(room[:len(e)], k, 1-k))
			for _, results := range exprCalls(room[:len(e)], k, 1-k) {
				overwrite(results)
				if !sameList(room, before) {
					t.Fatal("changed", before, room)
				}
			}
			if again := fmt.Sprint(exprCalls(room[:len(e)], k, 1-k)); again != first {
				t.Error("other results", first, again)
			}
		}
	}
}

func overwrite(results []any) {
	for _, x := range results {
		switch list := x.(type) {
		case []int:
			for i := range list {
				list[i] = -9
			}
			list = append(list, -9, -9)
		case []node:
			for i := range list {
				list[i] = node{Op: "other", A: -9}
			}
			list = append(list, node{Op: "other"}, node{Op: "other"})
		case []instr:
			for i := range list {
				list[i] = instr{Op: "other", A: -9}
			}
			list = append(list, instr{Op: "other"}, instr{Op: "other"})
		case [][]int:
			for i := range list {
				overwrite([]any{list[i]})
				list[i] = nil
			}
		}
	}
}

// TestPromise11ParsedStay has two results of one text, which share nothing.
func TestPromise11ParsedStay(t *testing.T) {
	e := parsed(t, "add(x0,mul(x1,3))")
	overwrite([]any{e})
	if f := parsed(t, "add(x0,mul(x1,3))"); f[0] != in(0) {
		t.Error("parsed", f)
	}
	for _, s := range []string{"", "(", "\xff\xfe", "add(x0,\xff)", "x0\x00"} {
		f, ok := impl.ParseExpr(s)
		checkZero(t, "ParseExpr", []any{f, ok}, s)
	}
}

// TestPromise11PutIntoItself puts an expression with room behind it into itself.
func TestPromise11PutIntoItself(t *testing.T) {
	room := append(parsed(t, "add(x0,1)"), make([]node, 40)...)
	before := copyOf(room)
	g, ok := impl.PutInput(room[:3], 0, room[:3])
	if !ok || !sameList(g, []node{in(0), constant(1), two("add", 0, 1), constant(1), two("add", 2, 3)}) {
		t.Error("put", g, ok)
	}
	overwrite([]any{g})
	if !sameList(room, before) {
		t.Error("changed", room)
	}
}
