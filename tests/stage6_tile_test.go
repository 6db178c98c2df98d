package tests

import (
	"slices"
	"strconv"
	"testing"

	"loop.example/g01127/impl"
)

func TestPromise6InstrByOne(t *testing.T) {
	for _, c := range []struct {
		text  string
		tile  int
		dst   int
		parts []int
		want  string
	}{
		{"0", 1, 2, nil, "set r2 0"},
		{"63", 1, 5, nil, "set r5 63"},
		{"7", 1, 0, nil, "set r0 7"},
		{"not(x0)", 2, 2, []int{0}, "not r2 r0"},
		{"neg(x0)", 2, 1, []int{5}, "neg r1 r5"},
		{"sub(x0,x1)", 3, 4, []int{3, 1}, "sub r4 r3 r1"},
		{"sub(x0,x1)", 3, 4, []int{1, 3}, "sub r4 r1 r3"},
		{"less(x0,x1)", 3, 2, []int{2, 2}, "less r2 r2 r2"},
		{"mul(x0,x1)", 3, 3, []int{2, 3}, "mul r3 r2 r3"},
		{"add(x0,9)", 3, 2, []int{0, 1}, "add r2 r0 r1"},
		{"add(x0,9)", 4, 2, []int{0}, "addi r2 r0 9"},
		{"add(9,x0)", 5, 2, []int{0}, "addi r2 r0 9"},
		{"sub(x0,9)", 4, 2, []int{0}, "addi r2 r0 55"},
		{"sub(x0,0)", 4, 2, []int{0}, "addi r2 r0 0"},
		{"sub(x0,1)", 4, 2, []int{0}, "addi r2 r0 63"},
		{"sub(x0,63)", 4, 2, []int{0}, "addi r2 r0 1"},
		{"sub(x0,32)", 4, 2, []int{0}, "addi r2 r0 32"},
		{"and(x0,9)", 4, 3, []int{2}, "andi r3 r2 9"},
		{"and(0,x0)", 5, 3, []int{2}, "andi r3 r2 0"},
		{"xor(x0,63)", 4, 3, []int{2}, "xori r3 r2 63"},
		{"xor(9,x0)", 5, 3, []int{2}, "xori r3 r2 9"},
		{"shl(x0,1)", 6, 2, []int{0}, "shli r2 r0 1"},
		{"shr(x0,5)", 6, 2, []int{1}, "shri r2 r1 5"},
		{"shl(1,2)", 6, 2, []int{2}, "shli r2 r2 2"},
		{"shl(1,2)", 3, 2, []int{2, 3}, "shl r2 r2 r3"},
		{"mul(8,16)", 7, 2, []int{0}, "shli r2 r0 4"},
		{"mul(8,16)", 8, 2, []int{0}, "shli r2 r0 3"},
		{"mul(8,16)", 3, 2, []int{0, 1}, "mul r2 r0 r1"},
		{"add(x0,shl(x1,3))", 9, 2, []int{4, 5}, "lea r2 r4 r5 3"},
		{"add(shl(x1,3),x0)", 10, 2, []int{4, 5}, "lea r2 r4 r5 3"},
		{"add(x0,mul(x1,8))", 11, 2, []int{4, 5}, "lea r2 r4 r5 3"},
		{"add(mul(x1,8),x0)", 12, 2, []int{4, 5}, "lea r2 r4 r5 3"},
		{"add(shl(x0,2),mul(x1,2))", 10, 2, []int{3, 4}, "lea r2 r3 r4 2"},
		{"add(shl(x0,2),mul(x1,2))", 11, 2, []int{3, 4}, "lea r2 r3 r4 1"},
		// What the constants are of other nodes does not matter.
		{"add(3,shl(2,1))", 9, 2, []int{3, 4}, "lea r2 r3 r4 1"},
		{"add(3,shl(2,1))", 5, 2, []int{4}, "addi r2 r4 3"},
		{"add(mul(3,4),8)", 12, 2, []int{3, 4}, "lea r2 r3 r4 2"},
		{"add(mul(3,4),8)", 4, 2, []int{3}, "addi r2 r3 8"},
		{"add(x0,mul(2,4))", 11, 0, []int{0, 0}, "lea r0 r0 r0 2"},
	} {
		e := parsed(t, c.text)
		x, ok := impl.InstrOfTile(e, len(e)-1, c.tile, c.dst, c.parts)
		if !ok || textByHand(x) != c.want || !impl.IsInstr(x) {
			t.Error(c.text, c.tile, x, ok)
		}
	}
}

// TestPromise6InstrWords has all constants that the tiles with one part take, on either side.
func TestPromise6InstrWords(t *testing.T) {
	check := func(text string, tile int, want string) {
		t.Helper()
		e := parsed(t, text)
		x, ok := impl.InstrOfTile(e, len(e)-1, tile, 2, []int{0})
		if ok != (want != "") || ok && textByHand(x) != want || !ok && x != (instr{}) {
			t.Error(text, tile, x, want)
		}
	}
	for word := range 64 {
		c := strconv.Itoa(word)
		check("add(x0,"+c+")", 4, "addi r2 r0 "+c)
		check("add("+c+",x0)", 5, "addi r2 r0 "+c)
		check("sub(x0,"+c+")", 4, "addi r2 r0 "+strconv.Itoa(remainder(64-word)))
		check("sub("+c+",x0)", 5, "")
		check("or(x0,"+c+")", 4, "")
		power, shift := "", ""
		if n, ok := powers[word]; ok {
			power = "shli r2 r0 " + strconv.Itoa(n)
		}
		if word >= 1 && word <= 5 {
			shift = "r2 r0 " + c
		}
		check("mul(x0,"+c+")", 7, power)
		check("mul("+c+",x0)", 8, power)
		for _, op := range []string{"shl", "shr"} {
			want := shift
			if shift != "" {
				want = op + "i " + shift
			}
			check(op+"(x0,"+c+")", 6, want)
			check(op+"("+c+",x0)", 6, "")
		}
	}
}

// TestPromise6InstrOfTiles holds all tiles at all nodes of trees against those told by hand, with any registers, and runs what it gets.
func TestPromise6InstrOfTiles(t *testing.T) {
	d := dice(63)
	counts := map[int]int{}
	for range 400 {
		e := d.coverTree(t, 1+d.below(24))
		for i := range e {
			told := toldTiles{tilesByHand(t, e, i)}
			for number := range 13 {
				tile := told.at(0, number)
				dst, parts := d.below(6), d.names()[:d.below(3)]
				if tile == nil || number == 0 {
					checkNoInstr(t, e, i, number, dst, parts)
					continue
				}
				counts[number]++
				parts = d.names()[:len(tile.parts)]
				x, ok := impl.InstrOfTile(e, i, number, dst, parts)
				if want := instrByHand(t, e, i, tile, dst, parts); !ok || x != want {
					t.Error("instruction", e, i, number, x, want, ok)
				}
				checkStep(t, e, i, x, tile.parts, parts)
			}
		}
	}
	for number := 1; number < 13; number++ {
		if counts[number] < 20 {
			t.Error("counts", number, counts)
		}
	}
}

// checkStep has the values of the parts in their registers, each in one of its own: the instruction makes that of the node.
func checkStep(t *testing.T, e []node, i int, x instr, parts []int, registers []int) {
	t.Helper()
	for k := range 5 {
		values := nodeValues(e, k*13%64, 63-k*27%64)
		regs := []int{40, 41, 42, 43, 44, 45}
		for j, p := range parts {
			regs[registers[j]] = values[p]
		}
		after, ok := impl.StepInstr(x, regs)
		if !ok || after[x.Dst] != values[i] {
			t.Error("step", e, i, x, regs, after, ok)
		}
	}
}

func checkNoInstr(t *testing.T, e []node, i int, number int, dst int, parts []int) {
	t.Helper()
	if x, ok := impl.InstrOfTile(e, i, number, dst, parts); ok || x != (instr{}) {
		t.Error("instruction", e, i, number, dst, parts, x)
	}
}

// TestPromise6NoInstr has the tile 0, tiles that are not told, other numbers of parts, and no registers.
func TestPromise6NoInstr(t *testing.T) {
	for _, text := range []string{"x0", "x1"} {
		e := parsed(t, text)
		for _, parts := range [][]int{nil, {0}, {1}, {2, 3}} {
			for number := range 13 {
				checkNoInstr(t, e, 0, number, 2, parts)
			}
		}
	}
	for _, c := range []struct {
		text  string
		tile  int
		parts []int
	}{
		{"5", 1, nil}, {"not(x0)", 2, []int{3}}, {"sub(x0,1)", 3, []int{2, 3}}, {"sub(x0,1)", 4, []int{2}}, {"xor(1,x0)", 5, []int{2}},
		{"shr(x0,1)", 6, []int{2}}, {"mul(2,4)", 7, []int{2}}, {"mul(2,4)", 8, []int{2}}, {"add(1,shl(2,3))", 9, []int{2, 3}},
		{"add(shl(2,3),1)", 10, []int{2, 3}}, {"add(1,mul(2,4))", 11, []int{2, 3}}, {"add(mul(2,4),1)", 12, []int{2, 3}},
	} {
		e := parsed(t, c.text)
		i := len(e) - 1
		if _, ok := impl.InstrOfTile(e, i, c.tile, 2, c.parts); !ok {
			t.Error("no instruction", c.text, c.tile)
		}
		for n := range 6 {
			if n != len(c.parts) {
				checkNoInstr(t, e, i, c.tile, 2, make([]int, n))
			}
		}
		checkNoInstr(t, e, i, c.tile, 2, append(slices.Clone(c.parts), 0))
		for _, bad := range append([]int{6, 7, 40}, extremes...) {
			if bad >= 0 && bad < 6 {
				continue
			}
			checkNoInstr(t, e, i, c.tile, bad, c.parts)
			for k := range c.parts {
				parts := slices.Clone(c.parts)
				parts[k] = bad
				checkNoInstr(t, e, i, c.tile, 2, parts)
			}
		}
		for number := -3; number < 16; number++ {
			if tiles, _ := impl.TilesAt(e, i); !slices.Contains(tiles, number) {
				for n := range 3 {
					checkNoInstr(t, e, i, number, 2, make([]int, n))
				}
			}
		}
	}
}
