package tests

import (
	"slices"
	"strconv"
	"strings"
	"testing"

	"loop.example/g01127/impl"
)

// tileRow is a row of the document's table of tiles; p and q in its shapes are parts, c is one of the words.
type tileRow struct {
	number int
	shapes []string
	words  []int
	cost   int
}

func tileRows() []tileRow {
	var all []int
	for word := range 64 {
		all = append(all, word)
	}
	rows := []tileRow{{number: 1, shapes: []string{"c"}, words: all, cost: 1}, {number: 2, shapes: []string{"not(p)", "neg(p)"}, cost: 1}}
	for _, op := range twoOperands {
		rows = append(rows, tileRow{number: 3, shapes: []string{op + "(p,q)"}, cost: costByHand([]node{two(op, 0, 0)})})
	}
	return append(rows,
		tileRow{number: 4, shapes: []string{"add(p,c)", "sub(p,c)", "and(p,c)", "xor(p,c)"}, words: all, cost: 1},
		tileRow{number: 5, shapes: []string{"add(c,p)", "and(c,p)", "xor(c,p)"}, words: all, cost: 1},
		tileRow{number: 6, shapes: []string{"shl(p,c)", "shr(p,c)"}, words: []int{1, 2, 3, 4, 5}, cost: 1},
		tileRow{number: 7, shapes: []string{"mul(p,c)"}, words: []int{2, 4, 8, 16, 32}, cost: 1},
		tileRow{number: 8, shapes: []string{"mul(c,p)"}, words: []int{2, 4, 8, 16, 32}, cost: 1},
		tileRow{number: 9, shapes: []string{"add(p,shl(q,c))"}, words: []int{1, 2, 3}, cost: 1},
		tileRow{number: 10, shapes: []string{"add(shl(q,c),p)"}, words: []int{1, 2, 3}, cost: 1},
		tileRow{number: 11, shapes: []string{"add(p,mul(q,c))"}, words: []int{2, 4, 8}, cost: 1},
		tileRow{number: 12, shapes: []string{"add(mul(q,c),p)"}, words: []int{2, 4, 8}, cost: 1},
	)
}

// toldTile is a tile as a test tells it.
type toldTile struct {
	number int
	parts  []int
	inner  []int
	cost   int
}

// shapesFor tells the shapes of a row with each of its words for c that is in the tree, x0 for p and x1 for q.
func (row tileRow) shapesFor(e []node) []string {
	var texts []string
	for _, shape := range row.shapes {
		if !strings.Contains(shape, "c)") && !strings.Contains(shape, "(c") && shape != "c" {
			texts = append(texts, strings.NewReplacer("(p", "(x0", ",q", ",x1").Replace(shape))
			continue
		}
		for _, word := range row.words {
			if slices.Contains(e, constant(word)) {
				text := strconv.Itoa(word)
				if shape != "c" {
					text = strings.NewReplacer("(c", "("+text, ",c", ","+text, "(p", "(x0", ",p", ",x0", "(q", "(x1").Replace(shape)
				}
				texts = append(texts, text)
			}
		}
	}
	return texts
}

// below tells the node i and all those that it needs.
func below(e []node, i int) []int {
	list := []int{i}
	for _, p := range operands(e[i]) {
		list = append(list, below(e, p)...)
	}
	return list
}

// tilesByHand tells the tiles at the node i by the shapes of the table: where one stands, its x0 and its x1 stand for the parts.
func tilesByHand(t *testing.T, e []node, i int) []toldTile {
	t.Helper()
	if e[i].Op == "in" {
		return []toldTile{{number: 0}}
	}
	var tiles []toldTile
	for _, row := range tileRows() {
		for _, shape := range row.shapesFor(e) {
			if !strings.HasPrefix(shape, e[i].Op) && e[i].Op != "const" {
				continue
			}
			if stands := matchByHand(ruleOf(parsed(t, shape), nil, "any"), e, i); stands != nil {
				tiles = append(tiles, tileWith(e, i, row, stands))
			}
		}
	}
	return tiles
}

// tileWith tells the tile of a row whose parts are those of the nodes that are no -1. Its inner nodes are those below the node that are not at or below a part.
func tileWith(e []node, i int, row tileRow, stands []int) toldTile {
	tile := toldTile{number: row.number, cost: row.cost}
	outside := []int{i}
	for _, p := range stands {
		if p >= 0 {
			tile.parts = append(tile.parts, p)
			outside = append(outside, below(e, p)...)
		}
	}
	for j := range e {
		if slices.Contains(below(e, i), j) && !slices.Contains(outside, j) {
			tile.inner = append(tile.inner, j)
		}
	}
	return tile
}

// toldTiles has the tiles of all nodes of a tree.
type toldTiles [][]toldTile

func allTilesByHand(t *testing.T, e []node) toldTiles {
	t.Helper()
	var tiles toldTiles
	for i := range e {
		tiles = append(tiles, tilesByHand(t, e, i))
	}
	return tiles
}

// at tells the tile with a number at the node i, nil if it is not told there.
func (tiles toldTiles) at(i int, number int) *toldTile {
	for k := range tiles[i] {
		if tiles[i][k].number == number {
			return &tiles[i][k]
		}
	}
	return nil
}

// isCover tells by the document's own words whether a list is a cover.
func (tiles toldTiles) isCover(cover []int) bool {
	if len(cover) != len(tiles) {
		return false
	}
	needed := map[int]bool{len(tiles) - 1: true}
	for i := len(tiles) - 1; i >= 0; i-- {
		if cover[i] == -1 {
			continue
		}
		tile := tiles.at(i, cover[i])
		if tile == nil {
			return false
		}
		for _, p := range tile.parts {
			needed[p] = needed[p] || needed[i]
			if cover[p] == -1 {
				return false
			}
		}
		for _, p := range tile.inner {
			if cover[p] != -1 {
				return false
			}
		}
	}
	for i, number := range cover {
		if (number != -1) != needed[i] {
			return false
		}
	}
	return true
}

// allCovers tries all lists of told tiles and -1, in order.
func (tiles toldTiles) allCovers() [][]int {
	lists := [][]int{nil}
	for _, told := range tiles {
		var longer [][]int
		for _, list := range lists {
			longer = append(longer, append(slices.Clone(list), -1))
			for _, tile := range told {
				longer = append(longer, append(slices.Clone(list), tile.number))
			}
		}
		lists = longer
	}
	return slices.DeleteFunc(lists, func(list []int) bool { return !tiles.isCover(list) })
}

// costOf tells the cost of a cover.
func (tiles toldTiles) costOf(cover []int) int {
	cost := 0
	for i, number := range cover {
		if number != -1 {
			cost += tiles.at(i, number).cost
		}
	}
	return cost
}

// count tells how many covers the tree has whose root is the node i.
func (tiles toldTiles) count(i int) int {
	sum := 0
	for _, tile := range tiles[i] {
		product := 1
		for _, p := range tile.parts {
			product *= tiles.count(p)
		}
		sum += product
	}
	return sum
}

// price tells the least cost of a cover of the tree whose root is the node i.
func (tiles toldTiles) price(i int) int {
	least := 1000
	for _, tile := range tiles[i] {
		cost := tile.cost
		for _, p := range tile.parts {
			cost += tiles.price(p)
		}
		least = min(least, cost)
	}
	return least
}

// unfairAt tells the first node and its least tile for which prices are not fair, nil if they are.
func (tiles toldTiles) unfairAt(prices []int) []int {
	for i, told := range tiles {
		for _, tile := range told {
			most := tile.cost
			for _, p := range tile.parts {
				most += prices[p]
			}
			if prices[i] > most {
				return []int{i, tile.number}
			}
		}
	}
	return nil
}

// chosen leaves of covers those that have the best tile at the root, and of these those that have it at the node before, and so on, until one is left.
func (tiles toldTiles) chosen(covers [][]int, isBetter func(a *toldTile, b *toldTile) bool) []int {
	for i := len(tiles) - 1; i >= 0; i-- {
		best := covers[0]
		for _, cover := range covers {
			if cover[i] != -1 && isBetter(tiles.at(i, cover[i]), tiles.at(i, best[i])) {
				best = cover
			}
		}
		number := best[i]
		covers = slices.DeleteFunc(slices.Clone(covers), func(cover []int) bool { return cover[i] != number })
	}
	return covers[0]
}

// bestByHand chooses among the covers that cost least.
func (tiles toldTiles) bestByHand(covers [][]int) []int {
	least := tiles.costOf(covers[0])
	for _, cover := range covers {
		least = min(least, tiles.costOf(cover))
	}
	cheap := slices.DeleteFunc(slices.Clone(covers), func(cover []int) bool { return tiles.costOf(cover) != least })
	return tiles.chosen(cheap, func(a *toldTile, b *toldTile) bool { return a.number < b.number })
}

func (tiles toldTiles) largestByHand(covers [][]int) []int {
	return tiles.chosen(covers, func(a *toldTile, b *toldTile) bool {
		switch {
		case len(a.inner) != len(b.inner):
			return len(a.inner) > len(b.inner)
		case a.cost != b.cost:
			return a.cost < b.cost
		}
		return a.number < b.number
	})
}

// coverText returns the text of a tree of about n nodes in which many tiles take constants, and others nearly do.
func (d *dice) coverText(n int) string {
	words := strings.Fields("0 1 1 2 2 2 3 4 4 4 5 6 8 8 16 32 33 63")
	word := func() string { return words[d.below(len(words))] }
	ops := []string{"add", "add", "add", "mul", "shl", "shr", "sub", "and", "xor", "or"}
	op := ops[d.below(len(ops))]
	switch {
	case n <= 1:
		return []string{"x0", "x1", word()}[d.below(3)]
	case n == 2 || d.below(16) == 0:
		return oneOperand[d.below(2)] + "(" + d.coverText(n-1) + ")"
	case n >= 5 && d.below(2) == 0:
		left := 1 + d.below(n-4)
		texts := []string{d.coverText(left), []string{"shl(", "mul("}[d.below(2)] + d.coverText(n-3-left) + "," + word() + ")"}
		k := d.below(2)
		return "add(" + texts[k] + "," + texts[1-k] + ")"
	}
	switch left := 1 + d.below(n-2); d.below(4) {
	case 0, 1:
		return op + "(" + d.coverText(n-2) + "," + word() + ")"
	case 2:
		return op + "(" + word() + "," + d.coverText(n-2) + ")"
	default:
		return op + "(" + d.coverText(left) + "," + d.coverText(n-1-left) + ")"
	}
}

// coverTree returns such a tree of n nodes or one less, in any order.
func (d *dice) coverTree(t *testing.T, n int) []node {
	t.Helper()
	return d.shuffled(parsed(t, d.coverText(n)))
}

// spoil changes a field of a node of a tree, mostly so that it is none any more, or leaves the tree as it is.
func (d *dice) spoil(e []node) {
	n := &e[d.below(len(e))]
	switch d.below(6) {
	case 0:
		n.Op = append([]string{"", "in", "const", "not", "other"}, twoOperands...)[d.below(15)]
	case 1:
		n.A = extremes[d.below(len(extremes))]
	case 2:
		n.B = d.below(len(e))
	case 3:
		n.Value = extremes[d.below(len(extremes))]
	}
}

// numbersText tells numbers with blanks between them.
func numbersText(list []int) string {
	var texts []string
	for _, number := range list {
		texts = append(texts, strconv.Itoa(number))
	}
	return strings.Join(texts, " ")
}

// tilesText tells the tiles that TilesAt returns for the root.
func tilesText(t *testing.T, text string) string {
	t.Helper()
	e := parsed(t, text)
	list, ok := impl.TilesAt(e, len(e)-1)
	if !ok {
		t.Error("no tiles", text)
	}
	return numbersText(list)
}
