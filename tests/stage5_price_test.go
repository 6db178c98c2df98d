package tests

import (
	"math"
	"slices"
	"testing"

	"loop.example/g01127/impl"
)

func TestPromise5FairByOne(t *testing.T) {
	for _, c := range []struct {
		text   string
		prices []int
		unfair []int
	}{
		{"add(x0,mul(x1,4))", []int{0, 0, 1, 1, 1}, nil},
		{"add(x0,mul(x1,4))", []int{0, 0, 1, 1, 2}, []int{4, 11}},
		{"add(x0,mul(x1,4))", []int{0, 0, 1, 2, 1}, []int{3, 7}},
		{"add(x0,mul(x1,4))", []int{0, 0, 2, 1, 1}, []int{2, 1}},
		{"add(x0,mul(x1,4))", []int{1, 0, 1, 1, 1}, []int{0, 0}},
		{"add(x0,mul(x1,4))", []int{0, 1, 1, 1, 1}, []int{1, 0}},
		{"add(x0,mul(x1,4))", []int{0, 0, 0, 0, 0}, nil},
		{"add(x0,mul(x1,4))", []int{0, 0, 0, 0, 1}, nil},
		{"add(x0,mul(x1,4))", []int{0, 0, 0, 1, 1}, nil},
		{"add(x0,mul(x1,4))", []int{0, 0, 0, 0, 2}, []int{4, 3}},
		{"add(x0,mul(x1,4))", []int{0, 0, 0, 6, 9}, []int{3, 3}},
		{"add(x0,mul(x1,4))", []int{1, 1, 2, 2, 2}, []int{0, 0}},
		{"add(x0,mul(x1,4))", []int{1000, 1000, 1000, 1000, 1000}, []int{0, 0}},
		{"add(x0,mul(x1,4))", []int{0, 0, 0, 0, 1000}, []int{4, 3}},
		{"mul(x0,x1)", []int{0, 0, 4}, nil},
		{"mul(x0,x1)", []int{0, 0, 5}, []int{2, 3}},
		{"shl(x0,x1)", []int{0, 0, 2}, nil},
		{"shl(x0,x1)", []int{0, 0, 3}, []int{2, 3}},
		{"add(1,2)", []int{1, 1, 2}, nil},
		{"add(1,2)", []int{1, 1, 3}, []int{2, 4}},
		{"add(1,2)", []int{1, 0, 2}, []int{2, 5}},
		{"add(1,2)", []int{0, 1, 2}, []int{2, 4}},
		{"add(1,2)", []int{1, 0, 1}, nil},
		{"add(1,2)", []int{1, 1, 4}, []int{2, 3}},
		{"mul(2,4)", []int{1, 0, 2}, []int{2, 8}},
		{"mul(2,4)", []int{0, 1, 2}, []int{2, 7}},
		{"add(mul(x0,2),mul(x1,4))", []int{0, 0, 1, 0, 0, 1, 2}, nil},
		{"add(mul(x0,2),mul(x1,4))", []int{0, 0, 1, 0, 0, 0, 2}, []int{6, 12}},
		{"add(mul(x0,2),mul(x1,4))", []int{0, 0, 0, 0, 0, 1, 2}, []int{6, 11}},
	} {
		e := parsed(t, c.text)
		if fair, ok := impl.AreFair(e, c.prices); !ok || fair != (c.unfair == nil) {
			t.Error(c.text, c.prices, fair, ok)
		}
		i, tile, ok := impl.UnfairAt(e, c.prices)
		if ok != (c.unfair != nil) || ok && (i != c.unfair[0] || tile != c.unfair[1]) || !ok && i+tile != 0 {
			t.Error(c.text, c.prices, i, tile, ok)
		}
	}
}

// TestPromise5NoPrices has lists of other lengths and numbers: none of them are fair, and none are taken where prices are required.
func TestPromise5NoPrices(t *testing.T) {
	for _, text := range []string{"x0", "add(1,2)", "add(x0,mul(x1,4))"} {
		e := parsed(t, text)
		good := make([]int, len(e))
		lists := [][]int{nil, good[1:], append(slices.Clone(good), 0), make([]int, 100)}
		for i := range e {
			for _, bad := range []int{-1, 1001, math.MinInt, math.MinInt + 1, math.MaxInt, math.MaxInt - 1} {
				list := slices.Clone(good)
				list[i] = bad
				lists = append(lists, list)
				list = coverOf(t, impl.PricesOf, e)
				list[i] = bad
				lists = append(lists, list)
			}
		}
		for _, list := range lists {
			if fair, ok := impl.AreFair(e, list); !ok || fair {
				t.Error("fair", text, list, fair, ok)
			}
			if i, tile, ok := impl.UnfairAt(e, list); ok || i != 0 || tile != 0 {
				t.Error("not fair", text, list, i, tile, ok)
			}
		}
		if fair, ok := impl.AreFair(e, good); !ok || !fair {
			t.Error("not fair", text, good)
		}
	}
	// 1000 is a price, even though it is not fair.
	if i, tile, ok := impl.UnfairAt(parsed(t, "not(x0)"), []int{0, 1000}); !ok || i != 1 || tile != 2 {
		t.Error("1000", i, tile, ok)
	}
}

// fairPrices returns prices that are as great as those before and the tiles told by hand let them be, or less.
func (d *dice) fairPrices(tiles toldTiles) []int {
	prices := make([]int, len(tiles))
	for i, told := range tiles {
		least := 1000
		for _, tile := range told {
			cost := tile.cost
			for _, p := range tile.parts {
				cost += prices[p]
			}
			least = min(least, cost)
		}
		prices[i] = max(0, least-d.below(8)/7)
	}
	return prices
}

// TestPromise5FairPricesProve wants the price of the root to be at most the cost of each cover.
func TestPromise5FairPricesProve(t *testing.T) {
	d := dice(55)
	tight := 0
	for range 300 {
		e := d.coverTree(t, 1+d.below(20))
		tiles := allTilesByHand(t, e)
		prices := d.fairPrices(tiles)
		if fair, ok := impl.AreFair(e, prices); !ok || !fair {
			t.Error("not fair", e, prices, fair, ok)
		}
		covers, _ := impl.AllCovers(e)
		best := coverOf(t, impl.BestCover, e)
		least, _ := impl.CoverCost(e, best)
		for _, cover := range append(covers, best) {
			cost, ok := impl.CoverCost(e, cover)
			if !ok || cost < prices[len(e)-1] || cost < least {
				t.Error("cost", e, cover, cost, least, prices)
			}
		}
		tight += truth(least == prices[len(e)-1])
	}
	if tight < 50 {
		t.Error("never tight", tight)
	}
}

// TestPromise5RandomPrices changes fair prices a little.
func TestPromise5RandomPrices(t *testing.T) {
	d := dice(56)
	counts := map[bool]int{}
	for range 500 {
		e := d.coverTree(t, 1+d.below(24))
		tiles := allTilesByHand(t, e)
		prices := d.fairPrices(tiles)
		for range d.below(4) {
			i := d.below(len(e))
			prices[i] = max(0, prices[i]+d.below(3)-1)
		}
		want := tiles.unfairAt(prices)
		counts[want == nil]++
		if fair, ok := impl.AreFair(e, prices); !ok || fair != (want == nil) {
			t.Error("fair", e, prices, fair, want)
		}
		i, tile, ok := impl.UnfairAt(e, prices)
		if want == nil && (ok || i != 0 || tile != 0) || want != nil && (!ok || i != want[0] || tile != want[1]) {
			t.Error("unfair", e, prices, i, tile, ok, want)
		}
	}
	if counts[true] < 100 || counts[false] < 100 {
		t.Error("counts", counts)
	}
}

// TestPromise5PricesAreTight raises each price by 1: then they are not fair any more, first at this node.
func TestPromise5PricesAreTight(t *testing.T) {
	d := dice(57)
	for range 150 {
		e := d.coverTree(t, 1+d.below(24))
		for i := range e {
			prices := coverOf(t, impl.PricesOf, e)
			prices[i]++
			if j, _, ok := impl.UnfairAt(e, prices); !ok || j != i {
				t.Error("fair", e, i, prices, j, ok)
			}
		}
	}
}
