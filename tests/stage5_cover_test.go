package tests

import (
	"slices"
	"strings"
	"testing"

	"loop.example/g01127/impl"
)

// coverOf returns what a function returns for a tree that it takes.
func coverOf(t *testing.T, of func([]node) ([]int, bool), e []node) []int {
	t.Helper()
	list, ok := of(e)
	if !ok || len(list) != len(e) {
		t.Error("fails", e, list, ok)
	}
	return list
}

func TestPromise5Example(t *testing.T) {
	e := parsed(t, "add(x0,mul(x1,4))")
	if tiles := tilesText(t, "add(x0,mul(x1,4))"); tiles != "3 11" {
		t.Error("tiles", tiles)
	}
	covers, ok := impl.AllCovers(e)
	if !ok || !sameLists(covers, [][]int{{0, 0, -1, -1, 11}, {0, 0, -1, 7, 3}, {0, 0, 1, 3, 3}}) {
		t.Error("covers", covers, ok)
	}
	for k, cost := range []int{1, 2, 6} {
		if n, ok := impl.CoverCost(e, covers[k]); !ok || n != cost {
			t.Error("cost", covers[k], n, ok)
		}
	}
	if cover := coverOf(t, impl.BestCover, e); !sameNumbers(cover, covers[0]) {
		t.Error("best", cover)
	}
	if cover := coverOf(t, impl.LargestCover, e); !sameNumbers(cover, covers[0]) {
		t.Error("largest", cover)
	}
	if prices := coverOf(t, impl.PricesOf, e); !sameNumbers(prices, []int{0, 0, 1, 1, 1}) {
		t.Error("prices", prices)
	}
	if uses, ok := impl.TileUses(e, covers[1]); !ok || !sameNumbers(uses, []int{2, 0, 0, 1, 0, 0, 0, 1, 0, 0, 0, 0, 0}) {
		t.Error("uses", uses, ok)
	}
}

func TestPromise5Leaves(t *testing.T) {
	for _, c := range []struct {
		text       string
		tile, cost int
	}{{"x0", 0, 0}, {"x1", 0, 0}, {"0", 1, 1}, {"63", 1, 1}} {
		e := parsed(t, c.text)
		if covers, ok := impl.AllCovers(e); !ok || !sameLists(covers, [][]int{{c.tile}}) {
			t.Error(c.text, covers, ok)
		}
		if n, ok := impl.CountCovers(e); !ok || n != 1 {
			t.Error(c.text, n, ok)
		}
		if n, ok := impl.CoverCost(e, []int{c.tile}); !ok || n != c.cost {
			t.Error(c.text, n, ok)
		}
		for _, of := range []func([]node) ([]int, bool){impl.BestCover, impl.LargestCover} {
			if cover := coverOf(t, of, e); cover[0] != c.tile {
				t.Error(c.text, cover)
			}
		}
		if prices := coverOf(t, impl.PricesOf, e); prices[0] != c.cost {
			t.Error(c.text, prices)
		}
		if fair, ok := impl.AreFair(e, []int{c.cost}); !ok || !fair {
			t.Error(c.text, fair, ok)
		}
		if i, tile, ok := impl.UnfairAt(e, []int{c.cost + 1}); !ok || i != 0 || tile != c.tile {
			t.Error(c.text, i, tile, ok)
		}
		for number := -2; number < 14; number++ {
			if is, ok := impl.IsCover(e, []int{number}); !ok || is != (number == c.tile) {
				t.Error(c.text, number, is, ok)
			}
		}
	}
}

func TestPromise5NoCovers(t *testing.T) {
	for _, c := range []struct {
		text  string
		cover []int
		is    bool
	}{
		{"add(x0,mul(x1,4))", []int{0, 0, -1, -1, 11}, true},
		{"add(x0,mul(x1,4))", []int{0, 0, 1, -1, 11}, false},
		{"add(x0,mul(x1,4))", []int{0, 0, -1, 7, 11}, false},
		{"add(x0,mul(x1,4))", []int{0, 0, 1, 3, 11}, false},
		{"add(x0,mul(x1,4))", []int{0, -1, -1, -1, 11}, false},
		{"add(x0,mul(x1,4))", []int{-1, 0, -1, -1, 11}, false},
		{"add(x0,mul(x1,4))", []int{-1, -1, -1, -1, 11}, false},
		{"add(x0,mul(x1,4))", []int{0, 0, -1, -1, -1}, false},
		{"add(x0,mul(x1,4))", []int{-1, -1, -1, -1, -1}, false},
		{"add(x0,mul(x1,4))", []int{0, 0, -1, -1, 12}, false},
		{"add(x0,mul(x1,4))", []int{0, 0, -1, -1, 9}, false},
		{"add(x0,mul(x1,4))", []int{0, 0, -1, -1, 3}, false},
		{"add(x0,mul(x1,4))", []int{0, 0, -1, 7, 3}, true},
		{"add(x0,mul(x1,4))", []int{0, 0, -1, 8, 3}, false},
		{"add(x0,mul(x1,4))", []int{0, 0, 1, 7, 3}, false},
		{"add(x0,mul(x1,4))", []int{0, 0, 0, 3, 3}, false},
		{"add(x0,mul(x1,4))", []int{0, 1, 1, 3, 3}, false},
		{"add(x0,mul(x1,4))", []int{0, 0, -2, -1, 11}, false},
		{"add(x0,mul(x1,4))", []int{0, 0, -1, -2, 11}, false},
		{"add(x0,mul(x1,4))", []int{-2, 0, -1, -1, 11}, false},
		{"add(x0,mul(x1,4))", []int{0, 0, -1, -1, -2}, false},
		{"add(x0,mul(x1,4))", []int{0, 0, -1, -1, 13}, false},
		{"add(x0,mul(x1,4))", []int{0, 0, 13, -1, 11}, false},
		{"add(x0,mul(x1,4))", []int{0, 0, -1, -1}, false},
		{"add(x0,mul(x1,4))", []int{0, 0, -1, -1, 11, -1}, false},
		{"add(x0,mul(x1,4))", []int{-1, 0, 0, -1, -1, 11}, false},
		{"add(x0,mul(x1,4))", nil, false},
		{"add(1,2)", []int{1, 1, 3}, true},
		{"add(1,2)", []int{1, -1, 4}, true},
		{"add(1,2)", []int{-1, 1, 5}, true},
		{"add(1,2)", []int{-1, 1, 4}, false},
		{"add(1,2)", []int{1, -1, 5}, false},
		{"add(1,2)", []int{1, 1, 4}, false},
		{"add(1,2)", []int{-1, -1, 4}, false},
		{"add(1,2)", []int{1, -1, 3}, false},
		{"sub(5,x0)", []int{-1, 0, 5}, false},
		{"sub(5,x0)", []int{1, 0, 3}, true},
	} {
		e := parsed(t, c.text)
		if is, ok := impl.IsCover(e, c.cover); !ok || is != c.is {
			t.Error(c.text, c.cover, is, ok)
		}
		if n, ok := impl.CoverCost(e, c.cover); ok != c.is || !ok && n != 0 {
			t.Error(c.text, c.cover, n, ok)
		}
		if uses, ok := impl.TileUses(e, c.cover); ok != c.is || !ok && len(uses) != 0 {
			t.Error(c.text, c.cover, uses, ok)
		}
	}
}

func TestPromise5ChosenTiles(t *testing.T) {
	for _, c := range []struct {
		text          string
		best, largest string
		cost          int
	}{
		{"mul(2,4)", "1 -1 7", "1 -1 7", 2},
		{"add(1,2)", "1 -1 4", "1 -1 4", 2},
		{"add(mul(x0,2),mul(x1,4))", "0 -1 7 0 -1 -1 11", "0 -1 7 0 -1 -1 11", 2},
		{"add(shl(x0,1),shl(x1,3))", "0 -1 6 0 -1 -1 9", "0 -1 6 0 -1 -1 9", 2},
		{"add(shl(x0,1),mul(x1,2))", "0 -1 -1 0 -1 7 10", "0 -1 -1 0 -1 7 10", 2},
		{"add(mul(x0,2),shl(x1,1))", "0 -1 7 0 -1 -1 9", "0 -1 7 0 -1 -1 9", 2},
		// The best cover takes 4 because it is before 12, the largest one 12 because it has two inner nodes.
		{"add(mul(x0,2),5)", "0 -1 7 -1 4", "0 -1 -1 1 12", 2},
		{"add(5,shl(x0,1))", "-1 0 -1 6 5", "1 0 -1 -1 9", 2},
		{"mul(x0,3)", "0 1 3", "0 1 3", 5},
		{"add(x0,mul(x1,16))", "0 0 -1 7 3", "0 0 -1 7 3", 2},
		{"add(7,mul(4,8))", "-1 1 -1 7 5", "1 1 -1 -1 11", 3},
		// Two inner nodes instead of one cost 1 more: the part that is left has an op with two operands.
		{"add(mul(mul(x0,x1),2),mul(4,3))", "0 0 3 -1 -1 -1 1 8 12", "0 0 3 -1 -1 -1 1 8 12", 7},
		{"add(mul(2,x0),63)", "-1 0 8 -1 4", "-1 0 8 -1 4", 2},
	} {
		e := parsed(t, c.text)
		best, largest := coverOf(t, impl.BestCover, e), coverOf(t, impl.LargestCover, e)
		if numbersText(best) != c.best || numbersText(largest) != c.largest {
			t.Error(c.text, best, largest)
		}
		prices := coverOf(t, impl.PricesOf, e)
		if n, ok := impl.CoverCost(e, best); !ok || n != c.cost || prices[len(e)-1] != c.cost {
			t.Error(c.text, n, ok, prices)
		}
	}
}

// TestPromise5CoversOfSmallTrees tries all lists.
func TestPromise5CoversOfSmallTrees(t *testing.T) {
	d := dice(52)
	most := 0
	for range 300 {
		e := d.coverTree(t, 1+d.below(9))
		tiles := allTilesByHand(t, e)
		want := tiles.allCovers()
		most = max(most, len(want))
		if covers, ok := impl.AllCovers(e); !ok || !sameLists(covers, want) {
			t.Error("covers", e, covers, want, ok)
		}
		if n, ok := impl.CountCovers(e); !ok || n != len(want) {
			t.Error("count", e, n, len(want), ok)
		}
		best, largest := tiles.bestByHand(want), tiles.largestByHand(want)
		if cover := coverOf(t, impl.BestCover, e); !sameNumbers(cover, best) {
			t.Error("best", e, cover, best)
		}
		if cover := coverOf(t, impl.LargestCover, e); !sameNumbers(cover, largest) {
			t.Error("largest", e, cover, largest)
		}
		checkPricesOfParts(t, e)
	}
	if most < 12 {
		t.Error("few covers", most)
	}
}

// checkPricesOfParts holds each price against all covers of the tree whose root the node is.
func checkPricesOfParts(t *testing.T, e []node) {
	t.Helper()
	prices := coverOf(t, impl.PricesOf, e)
	for i := range e {
		f, _ := impl.SubExpr(e, i)
		tiles := allTilesByHand(t, f)
		least := 1000
		for _, cover := range tiles.allCovers() {
			least = min(least, tiles.costOf(cover))
		}
		if prices[i] != least {
			t.Error("price", e, i, prices[i], least)
		}
	}
}

// TestPromise5CoversOfLargeTrees wants as many covers as are counted by hand, each one once and in order.
func TestPromise5CoversOfLargeTrees(t *testing.T) {
	d := dice(53)
	listed, many := 0, 0
	for range 300 {
		e := d.coverTree(t, 8+d.below(17))
		if d.below(3) == 0 {
			e = d.coverTree(t, 24)
		}
		tiles := allTilesByHand(t, e)
		count := tiles.count(len(e) - 1)
		if n, ok := impl.CountCovers(e); !ok || n != count {
			t.Error("count", e, n, count, ok)
		}
		covers, ok := impl.AllCovers(e)
		if ok != (count <= 200) || ok && len(covers) != count || !ok && len(covers) != 0 {
			t.Fatal("covers", e, len(covers), count, ok)
		}
		if !ok {
			many++
			checkBest(t, e, tiles)
			continue
		}
		listed++
		for k, cover := range covers {
			if !tiles.isCover(cover) || k > 0 && slices.Compare(covers[k-1], cover) >= 0 {
				t.Error("no cover, or not in order", e, k, cover)
			}
		}
		best, largest := tiles.bestByHand(covers), tiles.largestByHand(covers)
		if !sameNumbers(coverOf(t, impl.BestCover, e), best) || !sameNumbers(coverOf(t, impl.LargestCover, e), largest) {
			t.Error("chosen", e, best, largest)
		}
		checkBest(t, e, tiles)
	}
	if listed < 100 || many < 5 {
		t.Error("counts", listed, many)
	}
}

// checkBest wants the price of the root for the best cover, and prices told by hand, which are fair.
func checkBest(t *testing.T, e []node, tiles toldTiles) {
	t.Helper()
	best, largest := coverOf(t, impl.BestCover, e), coverOf(t, impl.LargestCover, e)
	prices := coverOf(t, impl.PricesOf, e)
	for i, price := range prices {
		if want := tiles.price(i); price != want {
			t.Error("price", e, i, price, want)
		}
	}
	cost, ok := impl.CoverCost(e, best)
	if !ok || !tiles.isCover(best) || cost != tiles.costOf(best) || cost != prices[len(e)-1] {
		t.Error("cost", e, best, cost, prices)
	}
	if !tiles.isCover(largest) || tiles.costOf(largest) < cost {
		t.Error("largest", e, largest)
	}
	if fair, ok := impl.AreFair(e, prices); !ok || !fair {
		t.Error("not fair", e, prices)
	}
}

// TestPromise5CoverLimit has trees with 200 covers, and with 210: each op multiplies the numbers of covers of its operands by 1, 2, 3, 4, 5, 7, 8, 11 or 15, so that no tree has a number between.
func TestPromise5CoverLimit(t *testing.T) {
	five, seven := "add(1,mul(x1,4))", "add(1,mul(2,4))"
	for _, c := range []struct {
		text  string
		count int
	}{
		{five, 5}, {seven, 7}, {"add(mul(2,4),mul(8,2))", 15}, {"add(mul(2,4),mul(x0,2))", 11}, {"add(mul(x0,2),mul(x1,2))", 8},
		{"or(or(" + five + "," + five + "),mul(sub(sub(x0,1),2),4))", 200},
		{"and(xor(sub(or(" + five + "," + five + "),1),2),3)", 200},
		{"less(add(mul(x0,2),mul(x1,2)),eq(" + five + "," + five + "))", 200},
		{"or(" + seven + ",or(" + five + ",and(add(1,2),3)))", 210},
		{"sub(less(add(mul(2,4),mul(8,2))," + seven + "),3)", 210},
	} {
		e := parsed(t, c.text)
		if n, ok := impl.CountCovers(e); !ok || n != c.count {
			t.Error(c.text, n, ok)
		}
		covers, ok := impl.AllCovers(e)
		if ok != (c.count <= 200) || ok && len(covers) != c.count || !ok && len(covers) != 0 {
			t.Error(c.text, len(covers), ok)
		}
		if covers != nil && !slices.IsSortedFunc(covers, slices.Compare[[]int]) {
			t.Error("order", c.text)
		}
	}
}

func TestPromise5ManyCovers(t *testing.T) {
	// Six sums of two constants have three covers each, the ops between them have one.
	text := "add(1,2)"
	for range 5 {
		text = "or(" + text + ",add(1,2))"
	}
	if n, ok := impl.CountCovers(parsed(t, text)); !ok || n != 729 {
		t.Error(text, n, ok)
	}
	deep := strings.Repeat("xor(", 11) + "x0" + strings.Repeat(",1)", 11)
	if n, ok := impl.CountCovers(parsed(t, deep)); !ok || n != 2048 {
		t.Error(deep, n, ok)
	}
	// Without any constants there is one cover, however large the tree is.
	if covers, ok := impl.AllCovers(chain(24)); !ok || len(covers) != 1 || len(covers[0]) != 24 {
		t.Error("chain", covers, ok)
	}
}

// TestPromise5ChangedCovers changes a number of a cover.
func TestPromise5ChangedCovers(t *testing.T) {
	d := dice(54)
	counts := map[bool]int{}
	for range 400 {
		e := d.coverTree(t, 1+d.below(24))
		tiles := allTilesByHand(t, e)
		cover := coverOf(t, []func([]node) ([]int, bool){impl.BestCover, impl.LargestCover}[d.below(2)], e)
		for range 20 {
			other := slices.Clone(cover)
			for range 1 + d.below(3) {
				i := d.below(len(e))
				numbers := []int{-1, d.below(13), d.below(16) - 2}
				for _, tile := range tiles[i] {
					numbers = append(numbers, tile.number, tile.number)
				}
				other[i] = numbers[d.below(len(numbers))]
			}
			want := tiles.isCover(other)
			counts[want]++
			checkCover(t, e, tiles, other, want)
		}
	}
	if counts[true] < 500 || counts[false] < 500 {
		t.Error("counts", counts)
	}
}

func checkCover(t *testing.T, e []node, tiles toldTiles, cover []int, want bool) {
	t.Helper()
	if is, ok := impl.IsCover(e, cover); !ok || is != want {
		t.Error("cover", e, cover, is, want)
	}
	n, ok := impl.CoverCost(e, cover)
	uses, fine := impl.TileUses(e, cover)
	if !want {
		if ok || fine || n != 0 || len(uses) != 0 {
			t.Error("no cover", e, cover, n, uses)
		}
		return
	}
	if !ok || n != tiles.costOf(cover) {
		t.Error("cost", e, cover, n, ok)
	}
	var counted []int
	for number := range 13 {
		count := 0
		for _, other := range cover {
			count += truth(other == number)
		}
		counted = append(counted, count)
	}
	if !fine || !sameNumbers(uses, counted) {
		t.Error("uses", e, cover, uses, counted)
	}
}
