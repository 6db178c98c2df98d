package tests

import (
	"slices"
	"strconv"
	"strings"
	"testing"

	"loop.example/g01127/impl"
)

func TestPromise5TilesAtTheRoot(t *testing.T) {
	for _, c := range []struct {
		texts string
		tiles string
	}{
		{"x0 x1", "0"},
		{"0 1 31 63", "1"},
		{"not(x0) neg(x1) not(5) neg(0) neg(neg(2)) not(add(x0,1))", "2"},
		{"add(x0,x1) sub(x0,x1) mul(x1,x0) and(x0,x0) or(x0,x1) xor(x0,x1) shl(x0,x1) shr(x0,x1) less(x0,x1) eq(x0,x1)", "3"},
		{"add(x0,0) add(x0,63) sub(x0,0) sub(x0,63) and(x0,0) and(x0,63) xor(x0,0) xor(x0,63) sub(not(x0),5)", "3 4"},
		{"add(0,x0) add(63,x0) and(0,x0) and(63,x0) xor(0,x0) xor(63,x0) add(7,not(x1))", "3 5"},
		{"sub(5,x0) sub(0,x0) or(x0,5) or(5,x0) less(x0,1) less(1,x0) eq(x0,0) eq(2,x0) or(1,2) eq(1,2)", "3"},
		{"shl(x0,1) shl(x0,5) shr(x0,1) shr(x0,5) shl(7,3) shr(7,3) shl(not(x0),2)", "3 6"},
		{"shl(x0,0) shl(x0,6) shl(x0,63) shr(x0,0) shr(x0,6) shl(1,x0) shr(2,x0) shl(2,0) shr(3,6)", "3"},
		{"mul(x0,2) mul(x0,4) mul(x0,8) mul(x0,16) mul(x0,32) mul(3,2) mul(0,4)", "3 7"},
		{"mul(2,x0) mul(4,x0) mul(8,x0) mul(16,x0) mul(32,x0) mul(2,3) mul(4,1)", "3 8"},
		{"mul(x0,0) mul(x0,1) mul(x0,3) mul(x0,33) mul(x0,63) mul(0,x0) mul(1,x0) mul(3,x0) mul(31,x0) mul(1,3)", "3"},
		{"add(x0,shl(x1,1)) add(x0,shl(x1,2)) add(x0,shl(x1,3)) add(not(x0),shl(5,3))", "3 9"},
		{"add(shl(x1,1),x0) add(shl(x1,2),x0) add(shl(x1,3),x0) add(shl(1,1),eq(x0,1))", "3 10"},
		{"add(x0,shl(x1,0)) add(x0,shl(x1,4)) add(shl(x1,0),x0) add(shl(x1,4),x0) add(shl(x1,5),x0) add(x0,shl(1,x1))", "3"},
		{"add(x0,mul(x1,2)) add(x0,mul(x1,4)) add(x0,mul(x1,8)) add(x0,mul(3,2)) add(x1,mul(2,8))", "3 11"},
		{"add(mul(x1,2),x0) add(mul(x1,4),x0) add(mul(x1,8),x0) add(mul(3,2),x0) add(mul(2,8),x0)", "3 12"},
		{"add(x0,mul(x1,16)) add(x0,mul(x1,1)) add(x0,mul(x1,3)) add(x0,mul(x1,0)) add(mul(x1,16),x0) add(mul(x1,1),x0)", "3"},
		{"add(x0,mul(4,x1)) add(mul(4,x1),x0) add(x0,shl(2,x1)) add(x0,mul(4,3)) add(mul(4,3),x0)", "3"},
		{"sub(x0,shl(x1,1)) sub(shl(x1,1),x0) sub(x0,mul(x1,2)) or(x0,mul(x1,2)) xor(shl(x0,1),x1) add(x0,shr(x1,1)) add(shr(x1,1),x0)", "3"},
		{"add(x0,not(shl(x1,1))) add(x0,neg(mul(x1,2))) add(x0,add(x1,mul(x0,2)))", "3"},
		{"add(1,2) and(0,0) xor(63,1) add(5,5)", "3 4 5"},
		{"sub(1,2) sub(5,5)", "3 4"},
		{"mul(2,4) mul(32,32) mul(2,2)", "3 7 8"},
		{"add(mul(x0,2),mul(x1,4)) add(mul(2,2),mul(3,8))", "3 11 12"},
		{"add(shl(x0,1),shl(x1,3)) add(shl(1,1),shl(1,1))", "3 9 10"},
		{"add(shl(x0,1),mul(x1,2))", "3 10 11"},
		{"add(mul(x0,2),shl(x1,1))", "3 9 12"},
		{"add(shl(x0,2),5)", "3 4 10"},
		{"add(mul(x0,8),0)", "3 4 12"},
		{"add(5,shl(x0,2))", "3 5 9"},
		{"add(63,mul(x0,8))", "3 5 11"},
		{"and(mul(x0,8),5) and(shl(x0,1),5) sub(mul(x0,8),5)", "3 4"},
	} {
		for _, text := range strings.Fields(c.texts) {
			if tiles := tilesText(t, text); tiles != c.tiles {
				t.Error(text, tiles, c.tiles)
			}
		}
	}
}

// TestPromise5EachConstant has each word as the constant of each tile that takes one.
func TestPromise5EachConstant(t *testing.T) {
	powers := []int{2, 4, 8, 16, 32}
	for _, c := range []struct {
		before, behind string
		tile           string
		words          []int
	}{
		{"shl(x0,", ")", "6", []int{1, 2, 3, 4, 5}}, {"shr(x0,", ")", "6", []int{1, 2, 3, 4, 5}},
		{"mul(x0,", ")", "7", powers}, {"mul(", ",x0)", "8", powers},
		{"add(x0,shl(x1,", "))", "9", []int{1, 2, 3}}, {"add(shl(x1,", "),x0)", "10", []int{1, 2, 3}},
		{"add(x0,mul(x1,", "))", "11", []int{2, 4, 8}}, {"add(mul(x1,", "),x0)", "12", []int{2, 4, 8}},
	} {
		for word := range 64 {
			want := "3"
			if slices.Contains(c.words, word) {
				want += " " + c.tile
			}
			text := c.before + strconv.Itoa(word) + c.behind
			if tiles := tilesText(t, text); tiles != want {
				t.Error(text, tiles, want)
			}
		}
	}
	for word := range 64 {
		for _, op := range []string{"add", "sub", "and", "xor"} {
			if tiles := tilesText(t, op+"(x0,"+strconv.Itoa(word)+")"); tiles != "3 4" {
				t.Error(op, word, tiles)
			}
			if tiles := tilesText(t, op+"("+strconv.Itoa(word)+",x0)"); tiles != map[bool]string{true: "3", false: "3 5"}[op == "sub"] {
				t.Error(word, op, tiles)
			}
		}
		if tiles := tilesText(t, strconv.Itoa(word)); tiles != "1" {
			t.Error(word, tiles)
		}
	}
}

func TestPromise5PartsInnerCost(t *testing.T) {
	product := []node{constant(4), in(1), two("mul", 1, 0), in(0), two("add", 3, 2)}
	for _, c := range []struct {
		e            []node
		i, t         int
		parts, inner string
		cost         int
	}{
		{parsed(t, "x0"), 0, 0, "", "", 0},
		{parsed(t, "0"), 0, 1, "", "", 1},
		{parsed(t, "neg(3)"), 1, 2, "0", "", 1},
		{parsed(t, "sub(x0,x1)"), 2, 3, "0 1", "", 1},
		{[]node{in(0), in(1), two("sub", 1, 0)}, 2, 3, "1 0", "", 1},
		{parsed(t, "mul(x0,4)"), 2, 3, "0 1", "", 4},
		{parsed(t, "shl(x0,4)"), 2, 3, "0 1", "", 2},
		{parsed(t, "shr(x0,4)"), 2, 3, "0 1", "", 2},
		{parsed(t, "less(1,4)"), 2, 3, "0 1", "", 1},
		{parsed(t, "sub(not(x0),5)"), 3, 4, "1", "2", 1},
		{parsed(t, "xor(5,not(x0))"), 3, 5, "2", "0", 1},
		{parsed(t, "add(5,6)"), 2, 4, "0", "1", 1},
		{parsed(t, "add(5,6)"), 2, 5, "1", "0", 1},
		{parsed(t, "shr(x0,5)"), 2, 6, "0", "1", 1},
		{parsed(t, "mul(2,4)"), 2, 7, "0", "1", 1},
		{parsed(t, "mul(2,4)"), 2, 8, "1", "0", 1},
		{parsed(t, "add(x0,shl(x1,3))"), 4, 9, "0 1", "2 3", 1},
		{parsed(t, "add(shl(x1,3),x0)"), 4, 10, "3 0", "1 2", 1},
		{parsed(t, "add(x0,mul(x1,4))"), 4, 11, "0 1", "2 3", 1},
		{parsed(t, "add(mul(x1,4),x0)"), 4, 12, "3 0", "1 2", 1},
		{product, 4, 11, "3 1", "0 2", 1},
		{product, 4, 3, "3 2", "", 1},
		{product, 2, 7, "1", "0", 1},
		{parsed(t, "add(mul(not(x0),8),mul(7,2))"), 7, 11, "3 4", "5 6", 1},
		{parsed(t, "add(mul(not(x0),8),mul(7,2))"), 7, 12, "6 1", "2 3", 1},
		{parsed(t, "add(shl(5,1),6)"), 4, 10, "3 0", "1 2", 1},
		{parsed(t, "add(shl(5,1),6)"), 4, 4, "2", "3", 1},
	} {
		parts, ok := impl.TileParts(c.e, c.i, c.t)
		inner, fine := impl.TileInner(c.e, c.i, c.t)
		cost, good := impl.TileCost(c.e, c.i, c.t)
		if !ok || !fine || !good || numbersText(parts) != c.parts || numbersText(inner) != c.inner || cost != c.cost {
			t.Error(c, parts, inner, cost, ok, fine, good)
		}
	}
}

// checkTiles holds all tiles of a tree against those told by hand, and against none for other numbers.
func checkTiles(t *testing.T, e []node, counts map[int]int) {
	t.Helper()
	for i := range e {
		told := tilesByHand(t, e, i)
		var numbers []int
		for _, tile := range told {
			numbers = append(numbers, tile.number)
			counts[tile.number]++
		}
		if list, ok := impl.TilesAt(e, i); !ok || !sameNumbers(list, numbers) {
			t.Error("tiles", e, i, list, numbers, ok)
		}
		for number := -2; number < 16; number++ {
			parts, ok := impl.TileParts(e, i, number)
			inner, fine := impl.TileInner(e, i, number)
			cost, good := impl.TileCost(e, i, number)
			want := toldTile{}
			if k := slices.Index(numbers, number); k >= 0 {
				want = told[k]
			}
			isTold := slices.Contains(numbers, number)
			if ok != isTold || fine != isTold || good != isTold || !sameNumbers(parts, want.parts) || !sameNumbers(inner, want.inner) || cost != want.cost {
				t.Error("tile", number, e, i, parts, inner, cost, want)
			}
		}
	}
}

func TestPromise5TilesOfRandomTrees(t *testing.T) {
	d := dice(51)
	counts := map[int]int{}
	for range 400 {
		checkTiles(t, d.coverTree(t, 1+d.below(24)), counts)
	}
	for number := range 13 {
		if counts[number] < 20 {
			t.Error("seldom", number, counts)
		}
	}
}
