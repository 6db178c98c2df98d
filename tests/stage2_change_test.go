package tests

import (
	"math"
	"slices"
	"testing"

	"loop.example/g01127/impl"
)

func TestReadsOf(t *testing.T) {
	for _, c := range []struct {
		text string
		want []int
	}{
		{"set r3 5", nil}, {"mov r2 r0", []int{0}}, {"not r1 r5", []int{5}}, {"neg r4 r4", []int{4}},
		{"add r2 r0 r1", []int{0, 1}}, {"sub r2 r1 r0", []int{0, 1}}, {"mul r2 r3 r3", []int{3}}, {"shl r0 r5 r0", []int{0, 5}},
		{"addi r2 r0 1", []int{0}}, {"andi r2 r4 1", []int{4}}, {"xori r5 r5 0", []int{5}}, {"shli r0 r1 3", []int{1}}, {"shri r0 r2 3", []int{2}},
		{"lea r3 r5 r2 1", []int{2, 5}}, {"lea r3 r0 r0 3", []int{0}}, {"less r1 r4 r3", []int{3, 4}}, {"eq r0 r0 r0", []int{0}},
	} {
		if list, ok := impl.ReadsOf(codeOf(t, c.text)[0]); !ok || !sameNumbers(list, c.want) {
			t.Error(c.text, list, ok)
		}
	}
	for _, row := range opRows() {
		for a := range 6 {
			for b := range 6 {
				x := row.with(a, a, b, row.least)
				var want []int
				for r := range 6 {
					if isReading(x, r) {
						want = append(want, r)
					}
				}
				if list, ok := impl.ReadsOf(x); !ok || !sameNumbers(list, want) {
					t.Error(x, list, ok)
				}
			}
		}
	}
}

func TestLiveSets(t *testing.T) {
	for _, c := range []struct {
		code []instr
		out  []int
		want [][]int
	}{
		{nil, nil, [][]int{nil}},
		{nil, []int{1, 4}, [][]int{{1, 4}}},
		{codeOf(t, "mul r2 r0 r1", "addi r2 r2 5"), []int{2}, [][]int{{0, 1}, {2}, {2}}},
		{codeOf(t, "mul r2 r0 r1", "addi r2 r2 5"), nil, [][]int{{0, 1}, {2}, nil}},
		// What is wanted and never written is alive.
		{codeOf(t, "mul r2 r0 r1"), []int{3, 5}, [][]int{{0, 1, 3, 5}, {3, 5}}},
		// What is written before it is read is not.
		{codeOf(t, "set r2 1", "set r3 2", "add r4 r2 r3"), []int{2, 4}, [][]int{nil, {2}, {2, 3}, {2, 4}}},
		// What an instruction reads and writes is read first.
		{codeOf(t, "add r2 r2 r2"), []int{2}, [][]int{{2}, {2}}},
		{codeOf(t, "add r2 r2 r0"), []int{0}, [][]int{{0, 2}, {0}}},
		// What an instruction reads that nobody needs is read all the same.
		{codeOf(t, "mov r3 r4", "set r3 1"), []int{3}, [][]int{{4}, nil, {3}}},
		{codeOf(t, "set r0 0", "set r1 0", "set r2 0", "set r3 0", "set r4 0", "set r5 0"), []int{0, 1, 2, 3, 4, 5},
			[][]int{nil, {0}, {0, 1}, {0, 1, 2}, {0, 1, 2, 3}, {0, 1, 2, 3, 4}, {0, 1, 2, 3, 4, 5}}},
	} {
		lists, ok := impl.LiveSets(c.code, c.out)
		if !ok || !sameLists(lists, c.want) {
			t.Error("sets", c.code, c.out, lists, ok)
		}
		if list, ok := impl.LiveBefore(c.code, c.out); !ok || !sameNumbers(list, c.want[0]) {
			t.Error("before", c.code, c.out, list, ok)
		}
		most := 0
		for _, list := range c.want {
			most = max(most, len(list))
		}
		if n, ok := impl.MostAlive(c.code, c.out); !ok || n != most {
			t.Error("most", c.code, c.out, n, ok)
		}
	}
}

func TestMostAlive(t *testing.T) {
	for _, c := range []struct {
		code []instr
		out  []int
		want int
	}{
		{nil, nil, 0}, {nil, []int{0, 1, 2, 3, 4, 5}, 6}, {codeOf(t, "set r2 1"), nil, 0},
		{codeOf(t, "mul r2 r0 r1", "addi r2 r2 5"), []int{2}, 2},
		// The most are alive in the middle, where none of the ends has so many.
		{codeOf(t, "set r2 1", "set r3 2", "set r4 3", "add r2 r2 r3", "add r2 r2 r4"), []int{2}, 3},
		{counting(40), []int{2}, 1},
	} {
		if n, ok := impl.MostAlive(c.code, c.out); !ok || n != c.want {
			t.Error("most", c.code, c.out, n, ok)
		}
	}
}

func TestDropDead(t *testing.T) {
	for _, c := range []struct {
		code []instr
		out  []int
		want []instr
	}{
		{nil, nil, nil}, {nil, []int{0, 5}, nil}, {counting(40), []int{2}, counting(40)},
		// Everything is dead: nothing is wanted, or nothing that is written.
		{counting(40), nil, nil}, {counting(40), []int{0, 1, 3, 4, 5}, nil},
		{codeOf(t, "mul r2 r0 r1", "addi r2 r2 5"), []int{0}, nil},
		{codeOf(t, "mul r2 r0 r1", "addi r2 r2 5"), []int{2}, codeOf(t, "mul r2 r0 r1", "addi r2 r2 5")},
		// What only dead instructions read is dead, too.
		{codeOf(t, "set r3 1", "not r4 r3", "neg r5 r4", "set r2 7"), []int{2}, codeOf(t, "set r2 7")},
		{codeOf(t, "set r3 1", "not r4 r3", "neg r5 r4", "set r2 7"), []int{2, 4}, codeOf(t, "set r3 1", "not r4 r3", "set r2 7")},
		// What is written again before anyone reads it is dead.
		{codeOf(t, "set r2 1", "set r2 2"), []int{2}, codeOf(t, "set r2 2")},
		{codeOf(t, "set r2 1", "add r2 r2 r2"), []int{2}, codeOf(t, "set r2 1", "add r2 r2 r2")},
		{codeOf(t, "set r2 1", "mov r3 r2", "set r2 2"), []int{2}, codeOf(t, "set r2 2")},
		{codeOf(t, "set r2 1", "mov r3 r2", "set r2 2"), []int{2, 3}, codeOf(t, "set r2 1", "mov r3 r2", "set r2 2")},
		// An instruction without any effect is not dead if its register is wanted.
		{codeOf(t, "mov r1 r1", "addi r1 r1 0"), []int{1}, codeOf(t, "mov r1 r1", "addi r1 r1 0")},
	} {
		if code, ok := impl.DropDead(c.code, c.out); !ok || !sameCode(code, c.want) {
			t.Error("dropped", c.code, c.out, code, ok)
		}
	}
}

// TestPromise2DeadCode holds what is alive and what is left against the document's words, and runs it.
func TestPromise2DeadCode(t *testing.T) {
	d := dice(12)
	for range 1500 {
		code, out := d.code(d.below(41)), d.registers()
		lists, ok := impl.LiveSets(code, out)
		if !ok || len(lists) != len(code)+1 {
			t.Fatal("sets", code, out, lists)
		}
		most := 0
		for i, list := range lists {
			if !sameNumbers(list, aliveByHand(code[i:], out)) {
				t.Error("alive", i, code, out, list)
			}
			most = max(most, len(list))
		}
		if list, ok := impl.LiveBefore(code, out); !ok || !sameNumbers(list, lists[0]) {
			t.Error("alive before", code, out, list)
		}
		if n, ok := impl.MostAlive(code, out); !ok || n != most {
			t.Error("most", code, out, n)
		}
		checkDropped(t, &d, code, out)
	}
}

func checkDropped(t *testing.T, d *dice, code []instr, out []int) {
	t.Helper()
	var want []instr
	for i := len(code) - 1; i >= 0; i-- {
		if isAlive(want, out, code[i].Dst) {
			want = append([]instr{code[i]}, want...)
		}
	}
	kept, ok := impl.DropDead(code, out)
	if !ok || !sameCode(kept, want) {
		t.Fatal("dropped", code, out, kept)
	}
	regs := d.words()
	all, few := runByHand(code, regs), runByHand(kept, regs)
	for _, r := range out {
		if all[r] != few[r] {
			t.Error("other word", code, out, r)
		}
	}
	// Registers that are not alive before code do not matter.
	other := d.words()
	for _, r := range aliveByHand(code, out) {
		other[r] = regs[r]
	}
	words, ok := impl.RunCode(code, other)
	for _, r := range out {
		if !ok || words[r] != all[r] {
			t.Error("a register that is not alive matters", code, out, r)
		}
	}
}

func TestRenameCode(t *testing.T) {
	code := codeOf(t, "mul r2 r0 r1", "set r0 5", "not r1 r5", "addi r2 r2 5", "lea r3 r0 r4 2")
	for _, c := range []struct {
		code  []instr
		names []int
		want  []instr
	}{
		{nil, []int{5, 4, 3, 2, 1, 0}, nil},
		{code, []int{0, 1, 2, 3, 4, 5}, code},
		// The fields that an op does not use stay 0, whatever the name of the register 0.
		{code, []int{5, 4, 3, 2, 1, 0}, codeOf(t, "mul r3 r5 r4", "set r5 5", "not r4 r0", "addi r3 r3 5", "lea r2 r5 r1 2")},
		{code, []int{1, 2, 3, 4, 5, 0}, codeOf(t, "mul r3 r1 r2", "set r1 5", "not r2 r0", "addi r3 r3 5", "lea r4 r1 r5 2")},
		{counting(40), []int{0, 1, 5, 3, 4, 2}, slices.Repeat(codeOf(t, "addi r5 r5 1"), 40)},
	} {
		if renamed, ok := impl.RenameCode(c.code, c.names); !ok || !sameCode(renamed, c.want) {
			t.Error("renamed", c.code, c.names, renamed, ok)
		}
	}
	for _, names := range invalidNames() {
		for _, code := range [][]instr{nil, code} {
			if renamed, ok := impl.RenameCode(code, names); ok || len(renamed) != 0 {
				t.Error("no names", names, renamed)
			}
		}
	}
}

// TestPromise2Names has registers with other names: the words stand in these.
func TestPromise2Names(t *testing.T) {
	d := dice(13)
	for range 1000 {
		code, names, regs := d.code(d.below(41)), d.names(), d.words()
		renamed, ok := impl.RenameCode(code, names)
		if !ok || !impl.IsCode(renamed) || len(renamed) != len(code) {
			t.Fatal("renamed", code, names, renamed)
		}
		moved := make([]int, 6)
		back := make([]int, 6)
		for r, name := range names {
			moved[name] = regs[r]
			back[name] = r
		}
		before, after := runByHand(code, regs), runByHand(renamed, moved)
		for r, name := range names {
			if before[r] != after[name] {
				t.Error("other word", code, names, r)
			}
		}
		if again, ok := impl.RenameCode(renamed, back); !ok || !sameCode(again, code) {
			t.Error("named back", code, names, again)
		}
	}
}

func TestAreIndependent(t *testing.T) {
	for _, c := range []struct {
		x, y string
		want bool
	}{
		{"set r2 1", "set r3 1", true}, {"set r2 1", "set r2 1", false}, {"set r2 1", "set r2 2", false},
		{"set r2 1", "mov r3 r2", false}, {"set r2 1", "add r3 r0 r2", false}, {"set r2 1", "add r3 r2 r0", false},
		{"set r2 1", "add r3 r0 r1", true}, {"add r2 r0 r1", "sub r3 r0 r1", true}, {"add r0 r0 r1", "sub r3 r0 r1", false},
		{"add r2 r2 r2", "add r3 r3 r3", true}, {"add r2 r2 r3", "add r3 r3 r2", false}, {"lea r4 r0 r1 2", "set r1 3", false},
		// The fields that an op does not use are 0, but nothing reads the register 0 there.
		{"set r0 1", "set r1 1", true}, {"set r0 1", "not r2 r1", true}, {"set r0 1", "addi r2 r1 0", true}, {"set r0 1", "mov r2 r0", false},
		// Imm is no register.
		{"set r3 1", "addi r2 r1 3", true}, {"set r2 1", "lea r3 r0 r1 2", true},
	} {
		x, y := codeOf(t, c.x)[0], codeOf(t, c.y)[0]
		if is, ok := impl.AreIndependent(x, y); !ok || is != c.want {
			t.Error(c.x, c.y, is, ok)
		}
		if is, ok := impl.AreIndependent(y, x); !ok || is != c.want {
			t.Error(c.y, c.x, is, ok)
		}
	}
	good := codeOf(t, "set r2 1")[0]
	for _, bad := range invalidInstrs() {
		for _, pair := range [][2]instr{{bad, good}, {good, bad}, {bad, bad}} {
			if is, ok := impl.AreIndependent(pair[0], pair[1]); ok || is {
				t.Error("no instructions", pair)
			}
		}
	}
}

func TestSwapNeighbours(t *testing.T) {
	code := codeOf(t, "set r2 1", "set r3 2", "add r4 r2 r3", "set r2 5")
	want := codeOf(t, "set r3 2", "set r2 1", "add r4 r2 r3", "set r2 5")
	if swapped, ok := impl.SwapNeighbours(code, 0); !ok || !sameCode(swapped, want) {
		t.Error("swapped", swapped, ok)
	}
	for _, i := range []int{1, 2, 3, 4, -1, 40, math.MinInt, math.MaxInt, math.MaxInt - 1} {
		if swapped, ok := impl.SwapNeighbours(code, i); ok || len(swapped) != 0 {
			t.Error("swapped", i, swapped)
		}
	}
	for _, code := range [][]instr{nil, counting(1), counting(40), counting(2)} {
		for _, i := range []int{-1, 0, 1, 38, 39, 40} {
			if swapped, ok := impl.SwapNeighbours(code, i); ok || len(swapped) != 0 {
				t.Error("swapped", len(code), i, swapped)
			}
		}
	}
	full := append(counting(38), codeOf(t, "set r0 1", "set r1 1")...)
	want = append(counting(38), codeOf(t, "set r1 1", "set r0 1")...)
	if swapped, ok := impl.SwapNeighbours(full, 38); !ok || !sameCode(swapped, want) {
		t.Error("the last ones", swapped, ok)
	}
}

// TestPromise2Neighbours exchanges neighbours of all sorts: nothing changes if they are independent.
func TestPromise2Neighbours(t *testing.T) {
	d := dice(14)
	for range 3000 {
		code := d.code(2 + d.below(6))
		i := d.below(len(code) - 1)
		x, y := code[i], code[i+1]
		want := x.Dst != y.Dst && !isReading(x, y.Dst) && !isReading(y, x.Dst)
		if is, ok := impl.AreIndependent(x, y); !ok || is != want {
			t.Error("independent", x, y, is)
		}
		swapped, ok := impl.SwapNeighbours(code, i)
		if ok != want {
			t.Fatal("swapped", code, i, swapped)
		}
		if !ok {
			if len(swapped) != 0 {
				t.Error("code of a call that fails", swapped)
			}
			continue
		}
		exchanged := slices.Concat(code[:i], []instr{y, x}, code[i+2:])
		regs := d.words()
		if !sameCode(swapped, exchanged) || !sameNumbers(runByHand(code, regs), runByHand(swapped, regs)) {
			t.Error("swapped", code, i, swapped)
		}
	}
}

func TestJoinCode(t *testing.T) {
	a, b := codeOf(t, "set r2 1", "set r3 2"), codeOf(t, "add r4 r2 r3")
	for _, c := range []struct{ a, b, want []instr }{
		{nil, nil, nil}, {a, nil, a}, {nil, a, a}, {[]instr{}, []instr{}, nil},
		{a, b, codeOf(t, "set r2 1", "set r3 2", "add r4 r2 r3")}, {b, a, codeOf(t, "add r4 r2 r3", "set r2 1", "set r3 2")},
		{counting(40), nil, counting(40)}, {nil, counting(40), counting(40)}, {counting(17), counting(23), counting(40)},
	} {
		if code, ok := impl.JoinCode(c.a, c.b); !ok || !sameCode(code, c.want) {
			t.Error("joined", c.a, c.b, code, ok)
		}
	}
	for _, n := range [][2]int{{40, 1}, {1, 40}, {20, 21}, {40, 40}, {41, 0}, {0, 41}} {
		if code, ok := impl.JoinCode(counting(n[0]), counting(n[1])); ok || len(code) != 0 {
			t.Error("too many", n, len(code))
		}
	}
	d := dice(15)
	for range 300 {
		a, b, regs := d.code(d.below(21)), d.code(d.below(21)), d.words()
		code, ok := impl.JoinCode(a, b)
		if !ok || !sameNumbers(runByHand(code, regs), runByHand(b, runByHand(a, regs))) {
			t.Error("joined", a, b, code)
		}
	}
}

func TestWantedHasToBeRegisters(t *testing.T) {
	for _, out := range invalidRegisters() {
		before := slices.Clone(out)
		for _, code := range [][]instr{nil, counting(1), codeOf(t, "set r0 1", "add r2 r0 r1")} {
			if list, ok := impl.LiveBefore(code, out); ok || len(list) != 0 {
				t.Error("before", out, list)
			}
			if lists, ok := impl.LiveSets(code, out); ok || len(lists) != 0 {
				t.Error("sets", out, lists)
			}
			if kept, ok := impl.DropDead(code, out); ok || len(kept) != 0 {
				t.Error("dropped", out, kept)
			}
			if n, ok := impl.MostAlive(code, out); ok || n != 0 {
				t.Error("most", out, n)
			}
		}
		if !sameNumbers(out, before) {
			t.Error("changed", before, out)
		}
	}
}
