package tests

import (
	"fmt"
	"slices"
	"testing"

	"loop.example/g01127/impl"
)

// needCalls has a call of each function of chapter 6 that takes a tree and a cover; its results are what it returns.
func needCalls(e []node, cover []int) map[string][]any {
	calls := map[string][]any{}
	keep := func(name string, results ...any) { calls[name] = results }
	list, ok := impl.NeedsOf(e, cover)
	keep("NeedsOf", list, ok)
	n, ok := impl.NeedOf(e, cover)
	keep("NeedOf", n, ok)
	n, ok = impl.LeftNeed(e, cover)
	keep("LeftNeed", n, ok)
	list, ok = impl.OrderOf(e, cover)
	keep("OrderOf", list, ok)
	code, r, ok := impl.SelectCode(e, cover)
	keep("SelectCode", code, r, ok)
	return calls
}

// bestCalls has those that take a tree alone.
func bestCalls(e []node) map[string][]any {
	calls := map[string][]any{}
	keep := func(name string, results ...any) { calls[name] = results }
	code, r, ok := impl.SelectBest(e)
	keep("SelectBest", code, r, ok)
	n, ok := impl.SavedBy(e)
	keep("SavedBy", n, ok)
	return calls
}

// computeCalls has those that take an expression, tree or not, and code.
func computeCalls(e []node, code []instr, r int) map[string][]any {
	calls := map[string][]any{}
	keep := func(name string, results ...any) { calls[name] = results }
	x0, x1, ok := impl.DifferenceOf(e, code, r)
	keep("DifferenceOf", x0, x1, ok)
	is, ok := impl.ComputesExpr(e, code, r)
	keep("ComputesExpr", is, ok)
	return calls
}

func compileCall(e []node) map[string][]any {
	code, r, ok := impl.CompileExpr(e)
	return map[string][]any{"CompileExpr": {code, r, ok}}
}

func instrCall(e []node, i int, number int, dst int, parts []int) map[string][]any {
	x, ok := impl.InstrOfTile(e, i, number, dst, parts)
	return map[string][]any{"InstrOfTile": {x, ok}}
}

func TestPromise11NoTreesForCode(t *testing.T) {
	for _, e := range noTrees() {
		before := copyOf(e)
		for _, cover := range [][]int{nil, {}, {0}, {0, 2}, {0, 3}, make([]int, len(e)), make([]int, 24), {0, -1, 4}, {0, 2, 3}, {0, 0, 3, 3}} {
			checkFailed(t, needCalls(e, cover), false, e)
		}
		checkFailed(t, bestCalls(e), false, e)
		for _, i := range []int{0, 1, 2, len(e) - 1, -1, 24} {
			for number := range 13 {
				for n := range 3 {
					checkFailed(t, instrCall(e, i, number, 2, make([]int, n)), false, e)
				}
			}
		}
		if !impl.IsExpr(e) {
			checkFailed(t, compileCall(e), false, e)
			checkFailed(t, computeCalls(e, nil, 0), false, e)
			checkFailed(t, computeCalls(e, counting(2), 2), false, e)
		}
		if !sameList(e, before) {
			t.Error("changed", before, e)
		}
	}
}

func TestPromise11NoCodeToCompute(t *testing.T) {
	e := parsed(t, "add(x0,x1)")
	for _, code := range invalidCodes() {
		before := copyOfCode(code)
		for r := range 6 {
			checkFailed(t, computeCalls(e, code, r), false, code)
		}
		if n, ok := impl.TemporariesOf(code); ok || n != 0 {
			t.Error("temporaries", code, n, ok)
		}
		if !sameCode(code, before) {
			t.Error("changed", before, code)
		}
	}
	for _, code := range [][]instr{nil, {}, counting(40)} {
		for _, r := range append([]int{6, 7}, extremes...) {
			if r < 0 || r > 5 {
				checkFailed(t, computeCalls(e, code, r), false, r)
			}
		}
	}
}

// TestPromise11ExtremeNumbersForTiles has tiles, nodes and registers of all sizes.
func TestPromise11ExtremeNumbersForTiles(t *testing.T) {
	numbers := append([]int{3, 4, 5, 6, 7, 11, 12, 13}, extremes...)
	for _, text := range []string{"x0", "5", "not(x0)", "add(x0,mul(x1,4))", "sub(1,2)"} {
		e := parsed(t, text)
		for _, i := range numbers {
			for _, j := range numbers {
				for _, parts := range [][]int{nil, {i}, {j}, {i, j}, {i, j, 0}, slices.Repeat([]int{i}, 50)} {
					checkInstrCall(t, e, i, j, 2, parts)
					checkInstrCall(t, e, len(e)-1, i, j, parts)
					checkInstrCall(t, e, len(e)-1, 3, i, parts)
				}
			}
		}
	}
}

// checkInstrCall wants an instruction if and only if all numbers are in their ranges and the tile is told.
func checkInstrCall(t *testing.T, e []node, i int, number int, dst int, parts []int) {
	t.Helper()
	calls := instrCall(e, i, number, dst, parts)
	checkFailed(t, calls, true, parts)
	told, ok := impl.TileParts(e, i, number)
	valid := ok && number != 0 && len(told) == len(parts)
	for _, r := range append([]int{dst}, parts...) {
		valid = valid && r >= 0 && r < 6
	}
	if calls["InstrOfTile"][1] != valid {
		t.Error("instruction", e, i, number, dst, parts, calls)
	}
}

// TestPromise11ListsForCode has lists of other lengths, and with numbers of all sizes, most of them no covers.
func TestPromise11ListsForCode(t *testing.T) {
	d := dice(70)
	counts := map[bool]int{}
	for _, text := range []string{"x0", "0", "not(x1)", "add(x0,mul(x1,4))", "add(1,2)"} {
		e := parsed(t, text)
		for range 400 {
			cover := make([]int, max(0, len(e)+[]int{0, 0, 0, 0, 0, -1, 1, 30}[d.below(8)]))
			for i := range cover {
				cover[i] = d.below(5) - 1
				if d.below(8) == 0 {
					cover[i] = extremes[d.below(len(extremes))]
				}
			}
			before := fmt.Sprint(cover)
			is, _ := impl.IsCover(e, cover)
			counts[is]++
			calls := needCalls(e, cover)
			checkFailed(t, calls, is, cover)
			for name, results := range calls {
				if results[len(results)-1] != is {
					t.Error(name, text, cover, results)
				}
			}
			if after := fmt.Sprint(cover); after != before {
				t.Error("changed", before, after)
			}
		}
	}
	if counts[true] < 50 || counts[false] < 50 {
		t.Error("counts", counts)
	}
}

// TestPromise11CodeForRandomNodes has lists of nodes and of instructions of all sorts.
func TestPromise11CodeForRandomNodes(t *testing.T) {
	d := dice(71)
	counts := map[bool]int{}
	for range 600 {
		e := d.coverTree(t, 1+d.below(9))
		cover := coverOf(t, impl.BestCover, e)
		d.spoil(e)
		code := d.code(d.below(4))
		if d.below(4) == 0 {
			code = append(code, instr{Op: "add", Dst: extremes[d.below(len(extremes))], A: d.below(9)})
		}
		before := fmt.Sprint(e, cover, code)
		tree, expr := impl.IsTree(e)
		counts[tree]++
		is, _ := impl.IsCover(e, cover)
		checkFailed(t, needCalls(e, cover), is, e)
		checkFailed(t, bestCalls(e), tree, e)
		checkFailed(t, instrCall(e, d.below(len(e)+2)-1, d.below(15)-1, d.below(8)-1, cover), tree, e)
		checkFailed(t, compileCall(e), expr, e)
		checkFailed(t, computeCalls(e, code, d.below(8)-1), expr && impl.IsCode(code), e)
		if after := fmt.Sprint(e, cover, code); after != before {
			t.Error("changed", before, after)
		}
	}
	if counts[true] < 150 || counts[false] < 100 {
		t.Error("counts", counts)
	}
}

// TestPromise11SelectedStays has room behind all arguments, and overwrites and grows every result.
func TestPromise11SelectedStays(t *testing.T) {
	for _, text := range []string{"x0", "5", "add(x0,mul(x1,4))", "sub(mul(x0,x1),add(x0,1))", "sub(1,sub(2,3))", orsOf(1, 8)} {
		e := append(parsed(t, text), node{Op: "behind", A: 7}, node{Op: "behind", B: 8})
		n := len(e) - 2
		cover := append(coverOf(t, impl.BestCover, e[:n]), 70, 71)
		code := append(counting(3), instr{Op: "behind", A: 7}, instr{Op: "behind", B: 8})
		parts := []int{2, 3, 70, 71}
		before := fmt.Sprint(e, cover, code, parts)
		call := func() []map[string][]any {
			list := []map[string][]any{needCalls(e[:n], cover[:n]), bestCalls(e[:n]), compileCall(e[:n]), computeCalls(e[:n], code[:3], 2)}
			for number := range 13 {
				for k := range 3 {
					list = append(list, instrCall(e[:n], n-1, number, 2, parts[:k]))
				}
			}
			return list
		}
		first := fmt.Sprint(call())
		for _, calls := range call() {
			for name, results := range calls {
				overwrite(results)
				if after := fmt.Sprint(e, cover, code, parts); after != before {
					t.Fatal("changed by", name, before, after)
				}
			}
		}
		if again := fmt.Sprint(call()); again != first {
			t.Error("other results", first, again)
		}
	}
}
