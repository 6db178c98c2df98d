package tests

import (
	"fmt"
	"testing"

	"loop.example/g01127/impl"
)

// tileCalls has a call of each function of chapter 5 that takes a node of a tree; its results are what it returns.
func tileCalls(e []node, i int, number int) map[string][]any {
	calls := map[string][]any{}
	keep := func(name string, results ...any) { calls[name] = results }
	list, ok := impl.TileParts(e, i, number)
	keep("TileParts", list, ok)
	list, ok = impl.TileInner(e, i, number)
	keep("TileInner", list, ok)
	n, ok := impl.TileCost(e, i, number)
	keep("TileCost", n, ok)
	list, ok = impl.TilesAt(e, i)
	keep("TilesAt", list, ok)
	return calls
}

// treeCalls has those that take a tree alone.
func treeCalls(e []node) map[string][]any {
	calls := map[string][]any{}
	keep := func(name string, results ...any) { calls[name] = results }
	list, ok := impl.PricesOf(e)
	keep("PricesOf", list, ok)
	list, ok = impl.BestCover(e)
	keep("BestCover", list, ok)
	list, ok = impl.LargestCover(e)
	keep("LargestCover", list, ok)
	n, ok := impl.CountCovers(e)
	keep("CountCovers", n, ok)
	covers, ok := impl.AllCovers(e)
	keep("AllCovers", covers, ok)
	return calls
}

// coverCalls has those that take a tree and a list of numbers.
func coverCalls(e []node, numbers []int) map[string][]any {
	calls := map[string][]any{}
	keep := func(name string, results ...any) { calls[name] = results }
	is, ok := impl.IsCover(e, numbers)
	keep("IsCover", is, ok)
	n, ok := impl.CoverCost(e, numbers)
	keep("CoverCost", n, ok)
	is, ok = impl.AreFair(e, numbers)
	keep("AreFair", is, ok)
	i, number, ok := impl.UnfairAt(e, numbers)
	keep("UnfairAt", i, number, ok)
	list, ok := impl.TileUses(e, numbers)
	keep("TileUses", list, ok)
	return calls
}

func TestPromise11NoTreesForTiles(t *testing.T) {
	for _, e := range noTrees() {
		before := copyOf(e)
		for _, i := range []int{0, 1, 2, len(e) - 1, -1, 24} {
			for _, number := range []int{0, 1, 2, 3, 7, 12, 13, -1} {
				checkFailed(t, tileCalls(e, i, number), false, e)
			}
		}
		checkFailed(t, treeCalls(e), false, e)
		for _, numbers := range [][]int{nil, {}, {0}, {0, 2}, make([]int, len(e)), make([]int, 24), {0, -1, 3}, {0, 0, 3, 3}} {
			checkFailed(t, coverCalls(e, numbers), false, e)
		}
		if !sameList(e, before) {
			t.Error("changed", before, e)
		}
	}
}

func TestPromise11ExtremeTiles(t *testing.T) {
	for _, text := range []string{"x0", "0", "add(x0,mul(x1,4))", nested(23, "x1"), "add(1,2)"} {
		e := parsed(t, text)
		for _, i := range extremes {
			for _, number := range append([]int{3, 4, 12, 13, -2, -3}, extremes...) {
				calls := tileCalls(e, i, number)
				isNode, isTile := i >= 0 && i < len(e), number >= 0 && number < 13
				checkFailed(t, calls, isNode, text)
				for name, results := range calls {
					if !isNode || !isTile && name != "TilesAt" {
						checkZero(t, name, results, number)
					}
				}
				if isNode && calls["TilesAt"][1] != true {
					t.Error("no tiles", text, i)
				}
			}
		}
	}
}

// TestPromise11ListsForTrees has lists of other lengths, and with numbers of all sizes.
func TestPromise11ListsForTrees(t *testing.T) {
	d := dice(58)
	for _, text := range []string{"x0", "0", "not(x1)", "add(x0,mul(x1,4))", "add(1,2)"} {
		e := parsed(t, text)
		for range 300 {
			numbers := make([]int, max(0, len(e)+[]int{0, 0, 0, 0, -1, 1, 30, -24}[d.below(8)]))
			for i := range numbers {
				numbers[i] = d.below(14) - 1
				if d.below(3) == 0 {
					numbers[i] = extremes[d.below(len(extremes))]
				}
			}
			before := fmt.Sprint(numbers)
			calls := coverCalls(e, numbers)
			checkFailed(t, calls, true, numbers)
			for _, name := range []string{"IsCover", "AreFair"} {
				if calls[name][1] != true || len(numbers) != len(e) && calls[name][0] != false {
					t.Error(name, text, numbers, calls[name])
				}
			}
			for _, name := range []string{"CoverCost", "TileUses"} {
				results := calls[name]
				if results[1] != calls["IsCover"][0] {
					t.Error(name, text, numbers, results)
				}
			}
			if after := fmt.Sprint(numbers); after != before {
				t.Error("changed", before, after)
			}
		}
	}
}

// TestPromise11TilesOfRandomNodes has lists of nodes of all sorts, most of them no trees.
func TestPromise11TilesOfRandomNodes(t *testing.T) {
	d := dice(59)
	counts := map[bool]int{}
	for range 1500 {
		e := d.coverTree(t, 1+d.below(12))
		d.spoil(e)
		before := fmt.Sprint(e)
		tree, _ := impl.IsTree(e)
		counts[tree]++
		checkFailed(t, tileCalls(e, d.below(len(e)+2)-1, d.below(15)-1), tree, e)
		checkFailed(t, treeCalls(e), tree, e)
		checkFailed(t, coverCalls(e, make([]int, len(e))), tree, e)
		if after := fmt.Sprint(e); after != before {
			t.Error("changed", before, after)
		}
	}
	if counts[true] < 300 || counts[false] < 300 {
		t.Error("counts", counts)
	}
}

// TestPromise11TilesStay has room behind the nodes and the numbers, and overwrites and grows every result.
func TestPromise11TilesStay(t *testing.T) {
	for _, text := range []string{"x0", "5", "add(x0,mul(x1,4))", "add(mul(x0,2),mul(x1,8))", "add(1,shl(2,3))", "xor(sub(not(x0),5),mul(2,4))"} {
		e := append(parsed(t, text), node{Op: "behind", A: 7}, node{Op: "behind", B: 8})
		n := len(e) - 2
		cover := append(coverOf(t, impl.BestCover, e[:n]), 70, 71)
		prices := append(coverOf(t, impl.PricesOf, e[:n]), 80, 81)
		before := fmt.Sprint(e, cover, prices)
		call := func() []map[string][]any {
			list := []map[string][]any{treeCalls(e[:n]), coverCalls(e[:n], cover[:n]), coverCalls(e[:n], prices[:n])}
			for number := range 13 {
				list = append(list, tileCalls(e[:n], n-1, number))
			}
			return list
		}
		first := fmt.Sprint(call())
		for _, calls := range call() {
			for name, results := range calls {
				overwrite(results)
				if after := fmt.Sprint(e, cover, prices); after != before {
					t.Fatal("changed by", name, before, after)
				}
			}
		}
		if again := fmt.Sprint(call()); again != first {
			t.Error("other results", first, again)
		}
	}
}

// TestPromise11CoversShareNothing overwrites and grows one cover after the other: the next one stays.
func TestPromise11CoversShareNothing(t *testing.T) {
	for _, text := range []string{"add(x0,mul(x1,4))", "xor(add(1,2),add(mul(x0,2),3))"} {
		e := parsed(t, text)
		want, _ := impl.AllCovers(e)
		covers, _ := impl.AllCovers(e)
		for k := range covers {
			if !sameLists(covers[k:], want[k:]) {
				t.Error("shared", text, k, covers[k:], want[k:])
			}
			overwrite([]any{covers[k]})
		}
	}
}
