package tests

import (
	"testing"

	"loop.example/g01127/impl"
)

func TestPromise6NeedsByOne(t *testing.T) {
	for _, c := range []struct {
		text       string
		cover      []int
		needs      string
		need, left int
		order      string
	}{
		{"x0", []int{0}, "0", 0, 0, "0"},
		{"x1", []int{0}, "0", 0, 0, "0"},
		{"0", []int{1}, "1", 1, 1, "0"},
		{"not(x0)", []int{0, 2}, "0 1", 1, 1, "0 1"},
		{"not(7)", []int{1, 2}, "1 1", 1, 1, "0 1"},
		{"sub(x0,x1)", []int{0, 0, 3}, "0 0 1", 1, 1, "0 1 2"},
		{"sub(x0,1)", []int{0, 1, 3}, "0 1 1", 1, 1, "1 0 2"},
		{"sub(x0,1)", []int{0, -1, 4}, "0 -1 1", 1, 1, "0 2"},
		{"sub(1,x0)", []int{1, 0, 3}, "1 0 1", 1, 1, "0 1 2"},
		{"sub(1,2)", []int{1, 1, 3}, "1 1 2", 2, 2, "0 1 2"},
		{"add(1,2)", []int{1, -1, 4}, "1 -1 1", 1, 1, "0 2"},
		{"add(1,2)", []int{-1, 1, 5}, "-1 1 1", 1, 1, "1 2"},
		{"add(x0,mul(x1,4))", []int{0, 0, -1, -1, 11}, "0 0 -1 -1 1", 1, 1, "0 1 4"},
		{"add(x0,mul(x1,4))", []int{0, 0, -1, 7, 3}, "0 0 -1 1 1", 1, 1, "1 3 0 4"},
		{"add(x0,mul(x1,4))", []int{0, 0, 1, 3, 3}, "0 0 1 1 1", 1, 1, "2 1 3 0 4"},
		{"sub(mul(x0,x1),add(x0,1))", []int{0, 0, 3, 0, -1, 4, 3}, "0 0 1 0 -1 1 2", 2, 2, "0 1 2 3 5 6"},
		// The parts of the tiles 10 and 12 are the second operand and then what is in the first one.
		{"add(shl(neg(x1),2),not(x0))", []int{0, 2, -1, -1, 0, 2, 10}, "0 1 -1 -1 0 1 2", 2, 2, "4 5 0 1 6"},
		{"add(shl(sub(1,2),2),not(x0))", []int{1, 1, 3, -1, -1, 0, 2, 10}, "1 1 2 -1 -1 0 1 2", 2, 3, "0 1 2 5 6 7"},
		// Of unequal parts the second one is first, of equal ones the first one.
		{"sub(1,sub(2,3))", []int{1, 1, 1, 3, 3}, "1 1 1 2 2", 2, 3, "1 2 3 0 4"},
		{"sub(sub(2,3),1)", []int{1, 1, 3, 1, 3}, "1 1 2 1 2", 2, 2, "0 1 2 3 4"},
		{"sub(sub(1,2),sub(3,4))", []int{1, 1, 3, 1, 1, 3, 3}, "1 1 2 1 1 2 3", 3, 3, "0 1 2 3 4 5 6"},
		// A part whose need is 0 holds nothing, first or second.
		{"sub(x0,sub(2,3))", []int{0, 1, 1, 3, 3}, "0 1 1 2 2", 2, 2, "1 2 3 0 4"},
		{"sub(sub(2,3),x0)", []int{1, 1, 3, 0, 3}, "1 1 2 0 2", 2, 2, "0 1 2 3 4"},
		{"not(sub(1,2))", []int{1, 1, 3, 2}, "1 1 2 2", 2, 2, "0 1 2 3"},
	} {
		e := parsed(t, c.text)
		if list, ok := impl.NeedsOf(e, c.cover); !ok || numbersText(list) != c.needs {
			t.Error("needs", c.text, c.cover, list, ok)
		}
		if n, ok := impl.NeedOf(e, c.cover); !ok || n != c.need {
			t.Error("need", c.text, c.cover, n, ok)
		}
		if n, ok := impl.LeftNeed(e, c.cover); !ok || n != c.left {
			t.Error("left", c.text, c.cover, n, ok)
		}
		if list, ok := impl.OrderOf(e, c.cover); !ok || numbersText(list) != c.order {
			t.Error("order", c.text, c.cover, list, ok)
		}
	}
}

// TestPromise6GreatNeeds has the needs of trees as large as there may be. A need of 5 takes 31 nodes, so no tree has it, but a LeftNeed has no such bound.
func TestPromise6GreatNeeds(t *testing.T) {
	full := orsOf(1, 8)
	for _, c := range []struct {
		text       string
		need, left int
	}{
		{orsOf(1, 2), 2, 2}, {orsOf(1, 4), 3, 3}, {full, 4, 4}, {orsOf(1, 12), 4, 5},
		{"or(x0," + full + ")", 4, 4}, {"or(" + full + ",x0)", 4, 4},
		{"or(9," + full + ")", 4, 5}, {"or(" + full + ",9)", 4, 4},
		{"or(9,or(10,or(11,or(12," + full + "))))", 4, 8},
		{orsToTheRight(4), 2, 4}, {orsToTheRight(5), 2, 5}, {orsToTheRight(12), 2, 12}, {orsToTheLeft(12), 2, 2},
		{nested(23, "5"), 1, 1}, {nested(23, "x0"), 1, 1},
	} {
		e := parsed(t, c.text)
		cover := coverOf(t, impl.BestCover, e)
		if n, ok := impl.NeedOf(e, cover); !ok || n != c.need {
			t.Error("need", c.text, n, ok)
		}
		if n, ok := impl.LeftNeed(e, cover); !ok || n != c.left {
			t.Error("left", c.text, n, ok)
		}
		code, r, ok := impl.SelectCode(e, cover)
		if n, fine := impl.TemporariesOf(code); !ok || !fine || n != c.need || r != 2 {
			t.Error("code", c.text, codeLines(code), r, ok)
		}
		checkRuns(t, e, code, r)
	}
}

// checkRuns holds code against the values of a tree for some inputs by hand and for all inputs by ComputesExpr.
func checkRuns(t *testing.T, e []node, code []instr, r int) {
	t.Helper()
	for k := range 20 {
		x0, x1 := k*29%64, k*k*11%64
		values := nodeValues(e, x0, x1)
		if word := resultByHand(code, x0, x1, r); word != values[len(e)-1] {
			t.Error("runs wrong", e, codeLines(code), x0, x1, word)
		}
	}
	if is, ok := impl.ComputesExpr(e, code, r); !ok || !is {
		t.Error("computes", e, codeLines(code), r, is, ok)
	}
}

// checkNeeds holds what is told of a cover against what is told by hand.
func checkNeeds(t *testing.T, e []node, tiles toldTiles, cover []int) {
	t.Helper()
	needs := tiles.needs(cover)
	if list, ok := impl.NeedsOf(e, cover); !ok || !sameNumbers(list, needs) {
		t.Error("needs", e, cover, list, needs, ok)
	}
	need, ok := impl.NeedOf(e, cover)
	if !ok || need != needs[len(e)-1] {
		t.Error("need", e, cover, need, needs, ok)
	}
	if n, ok := impl.LeftNeed(e, cover); !ok || n != tiles.leftNeed(e, cover) || n < need {
		t.Error("left", e, cover, n, need, ok)
	}
	order := tiles.order(cover, len(e)-1, false)
	if list, ok := impl.OrderOf(e, cover); !ok || !sameNumbers(list, order) {
		t.Error("order", e, cover, list, order, ok)
	}
}

func TestPromise6NeedsOfCovers(t *testing.T) {
	d := dice(61)
	greater := 0
	for range 400 {
		e := d.coverTree(t, 1+d.below(24))
		tiles := allTilesByHand(t, e)
		for range 4 {
			cover := d.someCover(tiles)
			checkNeeds(t, e, tiles, cover)
			greater += truth(tiles.leftNeed(e, cover) > tiles.need(cover, len(e)-1))
		}
	}
	if greater < 100 {
		t.Error("seldom greater", greater)
	}
}

// TestPromise6FewestTemporaries tries all orders of the instructions: none needs fewer temporaries than NeedOf tells and the code writes.
func TestPromise6FewestTemporaries(t *testing.T) {
	d := dice(62)
	counts := map[int]int{}
	check := func(e []node, tiles toldTiles, cover []int) {
		fewest := tiles.fewest(cover)
		counts[fewest]++
		if n, ok := impl.NeedOf(e, cover); !ok || n != fewest {
			t.Error("need", e, cover, n, fewest, ok)
		}
		code, _ := selected(t, e, cover)
		if n, ok := impl.TemporariesOf(code); !ok || n != fewest {
			t.Error("temporaries", e, cover, codeLines(code), n, fewest, ok)
		}
	}
	for range 150 {
		e := d.coverTree(t, 1+d.below(12))
		tiles := allTilesByHand(t, e)
		check(e, tiles, d.someCover(tiles))
	}
	for _, text := range []string{orsOf(1, 4), orsOf(1, 6), orsOf(1, 8), orsToTheRight(6), "or(1," + orsOf(2, 4) + ")"} {
		e := parsed(t, text)
		tiles := allTilesByHand(t, e)
		check(e, tiles, coverOf(t, impl.BestCover, e))
	}
	if counts[0] < 3 || counts[1] < 10 || counts[2] < 10 || counts[3] < 3 || counts[4] < 1 {
		t.Error("counts", counts)
	}
}

// TestPromise6NeedsOfNoCovers has lists that are no covers: there is nothing to tell of them.
func TestPromise6NeedsOfNoCovers(t *testing.T) {
	for _, text := range []string{"x0", "5", "not(x1)", "add(1,2)", "add(x0,mul(x1,4))", "sub(mul(x0,x1),add(x0,1))"} {
		e := parsed(t, text)
		tiles := allTilesByHand(t, e)
		for _, cover := range noCovers(tiles, coverOf(t, impl.BestCover, e)) {
			checkFailed(t, needCalls(e, cover), false, cover)
		}
	}
}
