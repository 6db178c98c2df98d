package tests

import (
	"fmt"
	"slices"
	"testing"

	"loop.example/g01127/impl"
)

// pairCalls has a call of each function of chapter 3 that takes two expressions; its results are what it returns.
func pairCalls(e []node, f []node, mask int) map[string][]any {
	calls := map[string][]any{}
	keep := func(name string, results ...any) { calls[name] = results }
	is, ok := impl.AreEqual(e, f)
	keep("AreEqual", is, ok)
	x0, x1, ok := impl.FirstDifference(e, f)
	keep("FirstDifference", x0, x1, ok)
	n, ok := impl.CountDifferences(e, f)
	keep("CountDifferences", n, ok)
	n, ok = impl.DifferentBits(e, f)
	keep("DifferentBits", n, ok)
	is, ok = impl.EqualAt(e, f, mask)
	keep("EqualAt", is, ok)
	list, ok := impl.ClassesOf([][]node{e, f})
	keep("ClassesOf", list, ok)
	return calls
}

// singleCalls has a call of each function of chapter 3 that takes one expression.
func singleCalls(e []node, i int) map[string][]any {
	calls := map[string][]any{}
	keep := func(name string, results ...any) { calls[name] = results }
	is, ok := impl.DependsOn(e, i)
	keep("DependsOn", is, ok)
	list, ok := impl.DependWitness(e, i)
	keep("DependWitness", list, ok)
	n, ok := impl.ConstantOf(e)
	keep("ConstantOf", n, ok)
	least, greatest, ok := impl.RangeOf(e)
	keep("RangeOf", least, greatest, ok)
	is, ok = impl.IsSymmetric(e)
	keep("IsSymmetric", is, ok)
	rules, ok := impl.KnownByRules(e)
	keep("KnownByRules", rules, ok)
	k, ok := impl.KnownBits(e)
	keep("KnownBits", k, ok)
	n, ok = impl.AskedBits(e, i)
	keep("AskedBits", n, ok)
	return calls
}

// knownCalls has a call of each function of chapter 3 that takes known bits and returns more than one result.
func knownCalls(op string, a known, b known, word int) map[string][]any {
	calls := map[string][]any{}
	keep := func(name string, results ...any) { calls[name] = results }
	k, ok := impl.JoinKnown(a, b)
	keep("JoinKnown", k, ok)
	is, ok := impl.DoesKnow(a, word)
	keep("DoesKnow", is, ok)
	k, ok = impl.KnownOf(op, a, b)
	keep("KnownOf", k, ok)
	return calls
}

// checkFailed wants zero results of all calls that fail, and of all if no call may succeed.
func checkFailed(t *testing.T, calls map[string][]any, valid bool, about any) {
	t.Helper()
	for name, results := range calls {
		if !valid || results[len(results)-1] == false {
			checkZero(t, name, results, about)
		}
	}
}

func TestPromise11InvalidExpressionsForEquality(t *testing.T) {
	good := parsed(t, "add(x0,mul(x1,3))")
	for _, e := range invalidExprs() {
		before := copyOf(e)
		for _, i := range []int{0, 1, -1, 63} {
			checkFailed(t, singleCalls(e, i), false, e)
			checkFailed(t, pairCalls(e, good, i), false, e)
			checkFailed(t, pairCalls(good, e, i), false, e)
			checkFailed(t, pairCalls(e, e, i), false, e)
		}
		if !sameList(e, before) {
			t.Error("changed", before, e)
		}
	}
}

// TestPromise11ExtremeNumbersForEquality has expressions and known bits with numbers of all sizes: what fails is zero.
func TestPromise11ExtremeNumbersForEquality(t *testing.T) {
	for _, e := range [][]node{{in(0)}, {constant(0)}, doubling(2), doubling(24), parsed(t, "add(x0,mul(x1,3))")} {
		for _, i := range extremes {
			checkFailed(t, singleCalls(e, i), true, e)
			checkFailed(t, pairCalls(e, e, i), true, e)
			if is, ok := impl.EqualAt(e, e, i); ok != (i >= 0 && i <= 63) || is != ok {
				t.Error("mask", i, is, ok)
			}
			if _, ok := impl.DependsOn(e, i); ok != (i == 0 || i == 1) {
				t.Error("input", i, ok)
			}
			if _, ok := impl.AskedBits(e, i); ok != (i >= 0 && i < len(e)) {
				t.Error("node", i, ok)
			}
		}
	}
	ops := append([]string{"", "in", "const", "other"}, append(slices.Clone(oneOperand), twoOperands...)...)
	for _, zeros := range extremes {
		for _, ones := range extremes {
			k := bitsOf(zeros, ones)
			for _, op := range ops {
				checkFailed(t, knownCalls(op, k, known{}, ones), impl.IsKnown(k), k)
				checkFailed(t, knownCalls(op, k, k, zeros), impl.IsKnown(k), k)
				checkFailed(t, knownCalls(op, bitsOf(1, 2), k, zeros), true, k)
			}
		}
	}
}

// TestPromise11RandomNodesForEquality has lists of nodes of all sorts, most of them no expressions.
func TestPromise11RandomNodesForEquality(t *testing.T) {
	d := dice(38)
	ops := append([]string{"", "in", "const", "other"}, append(slices.Clone(oneOperand), twoOperands...)...)
	number := func() int {
		if d.below(6) == 0 {
			return extremes[d.below(len(extremes))]
		}
		return d.below(3)
	}
	nodes := func() []node {
		e := make([]node, d.below(4))
		for i := range e {
			e[i] = node{Op: ops[d.below(len(ops))], A: number(), B: number(), Value: d.below(2) * number()}
		}
		return e
	}
	for range 1500 {
		e, f, i := nodes(), nodes(), number()
		before := fmt.Sprint(e, f)
		checkFailed(t, singleCalls(e, i), impl.IsExpr(e), e)
		checkFailed(t, pairCalls(e, f, i), impl.IsExpr(e) && impl.IsExpr(f), e)
		if after := fmt.Sprint(e, f); after != before {
			t.Error("changed", before, after)
		}
	}
}

// TestPromise11EqualityLeavesArguments has room behind the expressions, and overwrites and grows every result.
func TestPromise11EqualityLeavesArguments(t *testing.T) {
	behind := []node{{Op: "behind", A: 7}, {Op: "behind", B: 8}}
	for _, e := range [][]node{{in(1)}, {constant(9)}, doubling(24), chain(24), parsed(t, "add(x0,sub(1,3))"), parsed(t, "mul(x0,x1)")} {
		room := append(copyOf(e), behind...)
		other := append(parsed(t, "sub(x0,x1)"), behind...)
		before := fmt.Sprint(room, other)
		call := func() []map[string][]any {
			return []map[string][]any{singleCalls(room[:len(e)], 0), pairCalls(room[:len(e)], other[:3], 3), pairCalls(other[:3], room[:len(e)], 3)}
		}
		first := fmt.Sprint(call())
		for _, calls := range call() {
			for name, results := range calls {
				overwrite(results)
				if rules, ok := results[0].([]known); ok {
					clear(rules)
					_ = append(rules, bitsOf(9, 9))
				}
				if after := fmt.Sprint(room, other); after != before {
					t.Fatal("changed by", name, before, after)
				}
			}
		}
		if again := fmt.Sprint(call()); again != first {
			t.Error("other results", first, again)
		}
	}
}

// TestPromise11ClassesLeaveTheList has room behind the list of expressions, too.
func TestPromise11ClassesLeaveTheList(t *testing.T) {
	room := [][]node{parsed(t, "mul(x0,2)"), parsed(t, "x1"), parsed(t, "shl(x0,1)"), {{Op: "behind"}}, nil}
	before := fmt.Sprint(room)
	for range 2 {
		list, ok := impl.ClassesOf(room[:3])
		if !ok || !sameNumbers(list, []int{0, 1, 0}) || fmt.Sprint(room) != before {
			t.Fatal("classes", list, ok, room)
		}
		overwrite([]any{list})
	}
	for _, n := range []int{4, 5} {
		if list, ok := impl.ClassesOf(room[:n]); ok || len(list) != 0 {
			t.Error("classes", n, list, ok)
		}
	}
	if fmt.Sprint(room) != before {
		t.Error("changed", room)
	}
}
