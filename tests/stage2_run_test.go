package tests

import (
	"fmt"
	"math"
	"slices"
	"testing"

	"loop.example/g01127/impl"
)

func TestConstantsOfTheMachine(t *testing.T) {
	if impl.Registers != 6 || impl.MaxCode != 40 {
		t.Error("constants", impl.Registers, impl.MaxCode)
	}
}

func TestIsInstr(t *testing.T) {
	for _, row := range opRows() {
		for _, r := range []int{0, 1, 2, 3, 4, 5} {
			for _, imm := range []int{row.least, row.most} {
				for _, x := range []instr{row.with(r, 0, 0, imm), row.with(0, r, 0, imm), row.with(0, 0, r, imm), row.with(r, r, r, imm)} {
					if !impl.IsInstr(x) {
						t.Error("refused", x)
					}
				}
			}
		}
	}
	for _, x := range invalidInstrs() {
		if impl.IsInstr(x) {
			t.Error("taken", x)
		}
	}
}

func TestIsCode(t *testing.T) {
	for _, code := range [][]instr{nil, {}, counting(1), counting(39), counting(40)} {
		if !impl.IsCode(code) {
			t.Error("refused", len(code))
		}
	}
	for _, code := range invalidCodes() {
		if impl.IsCode(code) {
			t.Error("taken", code)
		}
	}
}

func TestCosts(t *testing.T) {
	var all []instr
	sum := 0
	for _, row := range opRows() {
		x := row.with(2, 0, 1, row.most)
		all = append(all, x)
		sum += row.cost
		if n, ok := impl.CostOfInstr(x); !ok || n != row.cost {
			t.Error("cost", x, n, ok)
		}
	}
	if n, ok := impl.CodeCost(all); !ok || n != sum || len(all) != 20 || sum != 25 {
		t.Error("sum", n, ok)
	}
	for _, c := range []struct {
		code []instr
		cost int
	}{
		{nil, 0}, {[]instr{}, 0}, {counting(40), 40}, {slices.Repeat([]instr{{Op: "mul"}}, 40), 160},
		{codeOf(t, "mul r2 r0 r1", "addi r2 r2 5"), 5}, {codeOf(t, "shl r2 r0 r1", "shli r3 r2 1", "shr r4 r3 r0", "shri r5 r0 5"), 6},
	} {
		if n, ok := impl.CodeCost(c.code); !ok || n != c.cost {
			t.Error("cost", c.code, n, ok)
		}
	}
}

func TestStepInstrByHand(t *testing.T) {
	for _, c := range []struct {
		text string
		regs []int
		want []int
	}{
		{"set r3 63", []int{1, 2, 3, 4, 5, 6}, []int{1, 2, 3, 63, 5, 6}},
		{"set r0 0", []int{1, 2, 3, 4, 5, 6}, []int{0, 2, 3, 4, 5, 6}},
		{"mov r5 r0", []int{1, 2, 3, 4, 5, 6}, []int{1, 2, 3, 4, 5, 1}},
		{"mov r4 r4", []int{1, 2, 3, 4, 5, 6}, []int{1, 2, 3, 4, 5, 6}},
		{"not r0 r0", []int{5, 2, 3, 4, 5, 6}, []int{58, 2, 3, 4, 5, 6}},
		{"neg r1 r2", []int{1, 2, 1, 4, 5, 6}, []int{1, 63, 1, 4, 5, 6}},
		{"neg r1 r2", []int{1, 2, 0, 4, 5, 6}, []int{1, 0, 0, 4, 5, 6}},
		{"add r2 r2 r2", []int{0, 0, 33, 0, 0, 0}, []int{0, 0, 2, 0, 0, 0}},
		{"sub r2 r0 r1", []int{1, 3, 9, 0, 0, 0}, []int{1, 3, 62, 0, 0, 0}},
		{"sub r2 r1 r0", []int{1, 3, 9, 0, 0, 0}, []int{1, 3, 2, 0, 0, 0}},
		{"mul r2 r0 r1", []int{63, 63, 9, 0, 0, 0}, []int{63, 63, 1, 0, 0, 0}},
		{"and r5 r3 r4", []int{0, 0, 0, 12, 10, 1}, []int{0, 0, 0, 12, 10, 8}},
		{"or r5 r3 r4", []int{0, 0, 0, 12, 10, 1}, []int{0, 0, 0, 12, 10, 14}},
		{"xor r5 r3 r4", []int{0, 0, 0, 12, 10, 1}, []int{0, 0, 0, 12, 10, 6}},
		{"shl r2 r0 r1", []int{5, 4, 0, 0, 0, 0}, []int{5, 4, 16, 0, 0, 0}},
		{"shl r2 r0 r1", []int{5, 6, 7, 0, 0, 0}, []int{5, 6, 0, 0, 0, 0}},
		{"shr r2 r0 r1", []int{63, 5, 0, 0, 0, 0}, []int{63, 5, 1, 0, 0, 0}},
		{"shr r2 r0 r1", []int{63, 63, 7, 0, 0, 0}, []int{63, 63, 0, 0, 0, 0}},
		{"less r2 r0 r1", []int{2, 3, 9, 0, 0, 0}, []int{2, 3, 1, 0, 0, 0}},
		{"less r2 r1 r0", []int{2, 3, 9, 0, 0, 0}, []int{2, 3, 0, 0, 0, 0}},
		{"eq r2 r1 r1", []int{2, 3, 9, 0, 0, 0}, []int{2, 3, 1, 0, 0, 0}},
		{"addi r2 r0 63", []int{5, 3, 9, 0, 0, 0}, []int{5, 3, 4, 0, 0, 0}},
		{"andi r2 r0 12", []int{10, 3, 9, 0, 0, 0}, []int{10, 3, 8, 0, 0, 0}},
		{"xori r2 r0 12", []int{10, 3, 9, 0, 0, 0}, []int{10, 3, 6, 0, 0, 0}},
		{"shli r2 r0 5", []int{3, 3, 9, 0, 0, 0}, []int{3, 3, 32, 0, 0, 0}},
		{"shri r2 r0 1", []int{63, 3, 9, 0, 0, 0}, []int{63, 3, 31, 0, 0, 0}},
		{"lea r3 r0 r1 2", []int{3, 4, 0, 0, 0, 0}, []int{3, 4, 0, 19, 0, 0}},
		{"lea r3 r1 r0 3", []int{63, 63, 0, 0, 0, 0}, []int{63, 63, 0, 55, 0, 0}},
		{"lea r1 r1 r1 1", []int{0, 30, 0, 0, 0, 0}, []int{0, 26, 0, 0, 0, 0}},
	} {
		if list, ok := impl.StepInstr(codeOf(t, c.text)[0], c.regs); !ok || !sameNumbers(list, c.want) {
			t.Error(c.text, c.regs, list, ok)
		}
	}
}

// TestStepInstrForAllWords has each op with each constant, for words that are the same register, too.
func TestStepInstrForAllWords(t *testing.T) {
	for _, row := range opRows() {
		for imm := row.least; imm <= row.most; imm++ {
			for a := range 64 {
				regs := []int{a, 63 - a, a / 2, 1, 5, 62}
				for _, x := range []instr{row.with(3, 0, 1, imm), row.with(0, 0, 4, imm), row.with(5, 2, 2, imm), row.with(1, 1, 1, imm)} {
					if list, ok := impl.StepInstr(x, regs); !ok || !sameNumbers(list, stepByHand(x, regs)) {
						t.Fatal(x, regs, list, ok)
					}
				}
			}
		}
	}
}

func TestRunCode(t *testing.T) {
	regs := []int{3, 4, 9, 8, 7, 6}
	for _, c := range []struct {
		code []instr
		want []int
	}{
		{nil, regs}, {[]instr{}, regs},
		{codeOf(t, "mul r2 r0 r1", "addi r2 r2 5"), []int{3, 4, 17, 8, 7, 6}},
		{codeOf(t, "addi r2 r2 5", "mul r2 r0 r1"), []int{3, 4, 12, 8, 7, 6}},
		{counting(40), []int{3, 4, 49, 8, 7, 6}},
		{codeOf(t, "xor r0 r0 r1", "xor r1 r0 r1", "xor r0 r0 r1"), []int{4, 3, 9, 8, 7, 6}},
	} {
		if list, ok := impl.RunCode(c.code, regs); !ok || !sameNumbers(list, c.want) {
			t.Error("run", c.code, list, ok)
		}
	}
}

func TestTraceOf(t *testing.T) {
	regs := []int{3, 4, 0, 0, 0, 0}
	if lists, ok := impl.TraceOf(nil, regs); !ok || !sameLists(lists, [][]int{regs}) {
		t.Error("empty code", lists, ok)
	}
	want := [][]int{regs, {3, 4, 12, 0, 0, 0}, {3, 4, 17, 0, 0, 0}}
	if lists, ok := impl.TraceOf(codeOf(t, "mul r2 r0 r1", "addi r2 r2 5"), regs); !ok || !sameLists(lists, want) {
		t.Error("trace", lists, ok)
	}
	lists, ok := impl.TraceOf(counting(40), regs)
	if !ok || len(lists) != 41 || lists[40][2] != 40 || lists[7][2] != 7 {
		t.Error("exactly MaxCode", lists, ok)
	}
}

func TestResultOf(t *testing.T) {
	code := codeOf(t, "mul r2 r0 r1", "addi r2 r2 5")
	for r, want := range []int{3, 4, 17, 0, 0, 0} {
		if n, ok := impl.ResultOf(code, 3, 4, r); !ok || n != want {
			t.Error("register", r, n, ok)
		}
	}
	for r, want := range []int{60, 2, 0, 0, 0, 0} {
		if n, ok := impl.ResultOf(nil, 60, 2, r); !ok || n != want {
			t.Error("empty code", r, n, ok)
		}
	}
	for _, bad := range []int{-1, 6, 64, math.MinInt, math.MaxInt} {
		if n, ok := impl.ResultOf(code, 3, 4, bad); ok || n != 0 {
			t.Error("no register", bad, n)
		}
	}
	for _, bad := range []int{-1, 64, math.MinInt, math.MaxInt} {
		for _, x := range [][2]int{{bad, 4}, {3, bad}, {bad, bad}} {
			// The words have to be words even if the register does not depend on them.
			for _, r := range []int{2, 5} {
				if n, ok := impl.ResultOf(code, x[0], x[1], r); ok || n != 0 {
					t.Error("no words", x, r, n)
				}
			}
		}
	}
}

// TestPromise2Runs holds runs of code, step by step, against those told independently.
func TestPromise2Runs(t *testing.T) {
	d := dice(11)
	for range 1000 {
		code, regs := d.code(d.below(41)), d.words()
		lists, ok := impl.TraceOf(code, regs)
		if !ok || len(lists) != len(code)+1 {
			t.Fatal("trace", code, regs, lists)
		}
		for i := range lists {
			if !sameNumbers(lists[i], runByHand(code[:i], regs)) {
				t.Fatal("trace", i, code, regs, lists[i])
			}
			if i > 0 {
				if list, ok := impl.StepInstr(code[i-1], lists[i-1]); !ok || !sameNumbers(list, lists[i]) {
					t.Error("step", code[i-1], lists[i-1], list)
				}
			}
		}
		if list, ok := impl.RunCode(code, regs); !ok || !sameNumbers(list, lists[len(code)]) {
			t.Error("run", code, regs, list)
		}
		checkResults(t, code, regs[0], regs[1])
		cost := 0
		for _, x := range code {
			cost += rowOf(x.Op).cost
		}
		if n, ok := impl.CodeCost(code); !ok || n != cost {
			t.Error("cost", code, n)
		}
	}
}

func checkResults(t *testing.T, code []instr, x0 int, x1 int) {
	t.Helper()
	want := runByHand(code, []int{x0, x1, 0, 0, 0, 0})
	for r := range 6 {
		if n, ok := impl.ResultOf(code, x0, x1, r); !ok || n != want[r] {
			t.Error("result", code, x0, x1, r, n)
		}
	}
}

func TestPromise2RunsFailForOtherWords(t *testing.T) {
	for _, regs := range invalidWords() {
		before := fmt.Sprint(regs)
		for _, code := range [][]instr{nil, counting(1), codeOf(t, "set r0 1")} {
			if list, ok := impl.RunCode(code, regs); ok || len(list) != 0 {
				t.Error("run", regs, list)
			}
			if lists, ok := impl.TraceOf(code, regs); ok || len(lists) != 0 {
				t.Error("trace", regs, lists)
			}
		}
		if list, ok := impl.StepInstr(codeOf(t, "set r0 1")[0], regs); ok || len(list) != 0 {
			t.Error("step", regs, list)
		}
		if fmt.Sprint(regs) != before {
			t.Error("changed", before, regs)
		}
	}
}
