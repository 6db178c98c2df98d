package tests

import (
	"slices"
	"strconv"
	"strings"
	"testing"

	"loop.example/g01127/impl"
)

// powers has the number whose power of 2 a word is.
var powers = map[int]int{2: 1, 4: 2, 8: 3, 16: 4, 32: 5}

// instrByHand tells the instruction of a tile by its text.
func instrByHand(t *testing.T, e []node, i int, tile *toldTile, dst int, registers []int) instr {
	t.Helper()
	op, imm := e[i].Op, -1
	word := 0
	for _, j := range tile.inner {
		if e[j].Op == "const" {
			word = e[j].Value
		}
	}
	switch {
	case tile.number == 1:
		op, imm = "set", e[i].Value
	case tile.number == 4 && op == "sub":
		op, imm = "addi", remainder(64-word)
	case tile.number >= 4 && tile.number <= 6:
		op, imm = op+"i", word
	case tile.number == 7 || tile.number == 8:
		op, imm = "shli", powers[word]
	case tile.number == 9 || tile.number == 10:
		op, imm = "lea", word
	case tile.number > 10:
		op, imm = "lea", powers[word]
	}
	text := op
	for _, r := range append([]int{dst}, registers...) {
		text += " r" + strconv.Itoa(r)
	}
	if imm >= 0 {
		text += " " + strconv.Itoa(imm)
	}
	return codeOf(t, text)[0]
}

// need tells the need of a node with a tile by the document's own words.
func (tiles toldTiles) need(cover []int, i int) int {
	parts := tiles.at(i, cover[i]).parts
	switch {
	case cover[i] == 0:
		return 0
	case len(parts) == 0:
		return 1
	case len(parts) == 1:
		return max(1, tiles.need(cover, parts[0]))
	}
	needs := []int{tiles.need(cover, parts[0]), tiles.need(cover, parts[1])}
	greater, other := slices.Max(needs), slices.Min(needs)
	if greater != 0 {
		other++
	}
	return max(1, greater, other)
}

// needs tells the needs of all nodes, -1 for those without a tile.
func (tiles toldTiles) needs(cover []int) []int {
	var list []int
	for i, number := range cover {
		if number == -1 {
			list = append(list, -1)
		} else {
			list = append(list, tiles.need(cover, i))
		}
	}
	return list
}

// order tells the nodes in the order in which they are evaluated, with the first part first everywhere if isLeft.
func (tiles toldTiles) order(cover []int, i int, isLeft bool) []int {
	parts := slices.Clone(tiles.at(i, cover[i]).parts)
	if len(parts) == 2 && !isLeft && tiles.need(cover, parts[1]) > tiles.need(cover, parts[0]) {
		slices.Reverse(parts)
	}
	var list []int
	for _, p := range parts {
		list = append(list, tiles.order(cover, p, isLeft)...)
	}
	return append(list, i)
}

// registersFor tells the register of each node with a tile if they are evaluated in an order, with as many temporaries as one likes.
func (tiles toldTiles) registersFor(e []node, cover []int, order []int) map[int]int {
	registers, isHeld := map[int]int{}, map[int]bool{}
	for _, i := range order {
		if cover[i] == 0 {
			registers[i] = e[i].Value
			continue
		}
		for _, p := range tiles.at(i, cover[i]).parts {
			isHeld[registers[p]] = false
		}
		r := 2
		for isHeld[r] {
			r++
		}
		registers[i], isHeld[r] = r, true
	}
	return registers
}

// leftNeed tells how many temporaries are used if the first part is always evaluated first.
func (tiles toldTiles) leftNeed(e []node, cover []int) int {
	used := map[int]bool{}
	for _, r := range tiles.registersFor(e, cover, tiles.order(cover, len(e)-1, true)) {
		if r > 1 {
			used[r] = true
		}
	}
	return len(used)
}

// codeByHand tells the code for a cover and the register of the root.
func (tiles toldTiles) codeByHand(t *testing.T, e []node, cover []int) ([]instr, int) {
	t.Helper()
	order := tiles.order(cover, len(e)-1, false)
	registers := tiles.registersFor(e, cover, order)
	var code []instr
	for _, i := range order {
		if cover[i] == 0 {
			continue
		}
		tile := tiles.at(i, cover[i])
		var parts []int
		for _, p := range tile.parts {
			parts = append(parts, registers[p])
		}
		code = append(code, instrByHand(t, e, i, tile, registers[i], parts))
	}
	return code, registers[len(e)-1]
}

// fewest tells the least number of temporaries that hold values at once, of all orders in which the instructions of a cover can be made, also such that leave a part half done.
func (tiles toldTiles) fewest(cover []int) int {
	const never = 1000
	all := 0
	users := map[int]int{}
	for i, number := range cover {
		if number > 0 {
			all |= 1 << i
			for _, p := range tiles.at(i, number).parts {
				users[p] = i
			}
		}
	}
	least := make([]int, all+1)
	for made := 1; made <= all; made++ {
		least[made] = never
		held := 0
		for i := range cover {
			last := made &^ (1 << i)
			if made&(1<<i) == 0 {
				continue
			}
			if user, ok := users[i]; !ok || made&(1<<user) == 0 {
				held++
			}
			if made&^all == 0 && tiles.isReady(cover, i, last) {
				least[made] = min(least[made], least[last])
			}
		}
		least[made] = max(least[made], held)
	}
	return least[all]
}

// isReady tells whether the parts of a node that need an instruction are among those that have been made.
func (tiles toldTiles) isReady(cover []int, i int, made int) bool {
	for _, p := range tiles.at(i, cover[i]).parts {
		if cover[p] > 0 && made&(1<<p) == 0 {
			return false
		}
	}
	return true
}

// someCover returns a cover with any of the told tiles.
func (d *dice) someCover(tiles toldTiles) []int {
	cover := slices.Repeat([]int{-1}, len(tiles))
	isNeeded := map[int]bool{len(tiles) - 1: true}
	for i := len(tiles) - 1; i >= 0; i-- {
		if !isNeeded[i] {
			continue
		}
		tile := tiles[i][d.below(len(tiles[i]))]
		cover[i] = tile.number
		for _, p := range tile.parts {
			isNeeded[p] = true
		}
	}
	return cover
}

// codeLines tells the texts of instructions with commas between them.
func codeLines(code []instr) string {
	var texts []string
	for _, x := range code {
		texts = append(texts, textByHand(x))
	}
	return strings.Join(texts, ", ")
}

// resultByHand tells the word in a register behind code.
func resultByHand(code []instr, x0 int, x1 int, r int) int {
	return runByHand(code, []int{x0, x1, 0, 0, 0, 0})[r]
}

// orsOf returns the text of the or of all numbers from first on, n of them, each or of two halves.
func orsOf(first int, n int) string {
	if n == 1 {
		return strconv.Itoa(first)
	}
	return "or(" + orsOf(first, n/2) + "," + orsOf(first+n/2, n-n/2) + ")"
}

// orsToTheRight returns the text of an or of 1 and an or of 2, and so on, up to n.
func orsToTheRight(n int) string {
	text := strconv.Itoa(n)
	for word := n - 1; word > 0; word-- {
		text = "or(" + strconv.Itoa(word) + "," + text + ")"
	}
	return text
}

// orsToTheLeft returns the text of an or of such an or and n.
func orsToTheLeft(n int) string {
	text := "1"
	for word := 2; word <= n; word++ {
		text = "or(" + text + "," + strconv.Itoa(word) + ")"
	}
	return text
}

// noCovers returns lists that are no covers of a tree, those that a change of a cover makes among them.
func noCovers(tiles toldTiles, cover []int) [][]int {
	lists := [][]int{nil, {}, cover[1:], append(slices.Clone(cover), -1), append([]int{-1}, cover...), make([]int, 100)}
	for i := range cover {
		for _, number := range append([]int{-2, -1, 13}, extremes...) {
			other := slices.Clone(cover)
			other[i] = number
			lists = append(lists, other)
		}
	}
	return slices.DeleteFunc(lists, tiles.isCover)
}

// selected wants SelectCode to succeed.
func selected(t *testing.T, e []node, cover []int) ([]instr, int) {
	t.Helper()
	code, r, ok := impl.SelectCode(e, cover)
	if !ok {
		t.Error("no code", e, cover)
	}
	return code, r
}
