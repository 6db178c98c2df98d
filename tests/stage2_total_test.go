package tests

import (
	"fmt"
	"reflect"
	"slices"
	"testing"

	"loop.example/g01127/impl"
)

// codeCalls has a call of each function of chapter 2 that takes code; its results are what it returns.
func codeCalls(code []instr, regs []int, out []int, names []int, i int) map[string][]any {
	calls := map[string][]any{}
	keep := func(name string, results ...any) { calls[name] = results }
	n, ok := impl.CodeCost(code)
	keep("CodeCost", n, ok)
	list, ok := impl.RunCode(code, regs)
	keep("RunCode", list, ok)
	lists, ok := impl.TraceOf(code, regs)
	keep("TraceOf", lists, ok)
	n, ok = impl.ResultOf(code, 1, 2, i)
	keep("ResultOf", n, ok)
	n, ok = impl.ResultOf(code, i, 2, 2)
	keep("ResultOf x0", n, ok)
	n, ok = impl.ResultOf(code, 1, i, 2)
	keep("ResultOf x1", n, ok)
	list, ok = impl.LiveBefore(code, out)
	keep("LiveBefore", list, ok)
	lists, ok = impl.LiveSets(code, out)
	keep("LiveSets", lists, ok)
	kept, ok := impl.DropDead(code, out)
	keep("DropDead", kept, ok)
	kept, ok = impl.RenameCode(code, names)
	keep("RenameCode", kept, ok)
	kept, ok = impl.SwapNeighbours(code, i)
	keep("SwapNeighbours", kept, ok)
	kept, ok = impl.JoinCode(code, counting(1))
	keep("JoinCode", kept, ok)
	kept, ok = impl.JoinCode(nil, code)
	keep("JoinCode behind", kept, ok)
	kept, ok = impl.JoinCode(code, code)
	keep("JoinCode twice", kept, ok)
	n, ok = impl.MostAlive(code, out)
	keep("MostAlive", n, ok)
	s, ok := impl.CodeText(code)
	keep("CodeText", s, ok)
	return calls
}

// instrCalls has a call of each function of chapter 2 that takes an instruction.
func instrCalls(x instr, regs []int) map[string][]any {
	calls := map[string][]any{}
	keep := func(name string, results ...any) { calls[name] = results }
	good := instr{Op: "set", Dst: 2}
	n, ok := impl.CostOfInstr(x)
	keep("CostOfInstr", n, ok)
	list, ok := impl.StepInstr(x, regs)
	keep("StepInstr", list, ok)
	list, ok = impl.ReadsOf(x)
	keep("ReadsOf", list, ok)
	is, ok := impl.AreIndependent(x, good)
	keep("AreIndependent", is, ok)
	is, ok = impl.AreIndependent(good, x)
	keep("AreIndependent behind", is, ok)
	s, ok := impl.InstrText(x)
	keep("InstrText", s, ok)
	return calls
}

var goodWords = []int{1, 2, 3, 4, 5, 6}
var goodNames = []int{5, 4, 3, 2, 1, 0}

func TestPromise11InvalidCode(t *testing.T) {
	for _, code := range invalidCodes() {
		before := copyOfCode(code)
		for name, results := range codeCalls(code, goodWords, []int{2}, goodNames, 0) {
			checkZero(t, name, results, code)
		}
		if !sameCode(code, before) {
			t.Error("changed", before, code)
		}
	}
	for _, x := range invalidInstrs() {
		for name, results := range instrCalls(x, goodWords) {
			checkZero(t, name, results, x)
		}
	}
}

// TestPromise11ExtremeNumbersForCode has code with numbers of all sizes beside it: what fails is zero.
func TestPromise11ExtremeNumbersForCode(t *testing.T) {
	for _, code := range [][]instr{nil, counting(1), counting(40), codeOf(t, "set r0 1", "set r1 2", "mul r2 r0 r1")} {
		for _, i := range append([]int{3, 4, 5, 6, 7, 38, 39, 40}, extremes...) {
			for _, list := range [][]int{nil, {i}, {0, i}, {i, 1, 2, 3, 4, 5}, {0, 1, 2, 3, 4, i}, slices.Repeat([]int{i}, 6), slices.Repeat([]int{i}, 50)} {
				for name, results := range codeCalls(code, list, list, list, i) {
					if results[len(results)-1] == false {
						checkZero(t, name, results, list)
					}
				}
			}
		}
	}
}

// TestPromise11RandomInstructions has lists of instructions of all sorts, most of them no code, and random lists.
func TestPromise11RandomInstructions(t *testing.T) {
	d := dice(17)
	ops := []string{"", "other", "in"}
	for _, row := range opRows() {
		ops = append(ops, row.op)
	}
	number := func() int {
		if d.below(4) == 0 {
			return extremes[d.below(len(extremes))]
		}
		return d.below(3)
	}
	numbers := func() []int {
		list := make([]int, d.below(8))
		for i := range list {
			list[i] = number()
		}
		return list
	}
	for range 5000 {
		code := make([]instr, d.below(4))
		for i := range code {
			code[i] = instr{Op: ops[d.below(len(ops))], Dst: number(), A: number(), B: d.below(2) * number(), Imm: d.below(2) * number()}
		}
		regs, out, names := numbers(), numbers(), numbers()
		before := fmt.Sprint(code, regs, out, names)
		valid := impl.IsCode(code)
		for name, results := range codeCalls(code, regs, out, names, number()) {
			if !valid || results[len(results)-1] == false {
				checkZero(t, name, results, code)
			}
		}
		for _, x := range code {
			for name, results := range instrCalls(x, regs) {
				if !impl.IsInstr(x) || results[len(results)-1] == false {
					checkZero(t, name, results, x)
				}
			}
		}
		if after := fmt.Sprint(code, regs, out, names); after != before {
			t.Error("changed", before, after)
		}
	}
}

// TestPromise11CodeStays has room behind all arguments, and overwrites and grows every result.
func TestPromise11CodeStays(t *testing.T) {
	for _, code := range [][]instr{
		nil, counting(1), counting(20), counting(40), codeOf(t, "set r3 1", "set r4 2", "add r2 r3 r4", "set r5 1"),
		codeOf(t, "set r1 1", "mov r2 r0"), codeOf(t, "mov r3 r3", "neg r2 r2"),
	} {
		behind := []instr{{Op: "behind", A: 7}, {Op: "behind", B: 8}}
		room := append(copyOfCode(code), behind...)
		regs := []int{1, 2, 3, 4, 5, 6, 77, 88}
		out := []int{1, 2, 5, 77, 88}
		names := []int{5, 4, 3, 2, 1, 0, 77, 88}
		before := fmt.Sprint(room, regs, out, names)
		call := func() map[string][]any { return codeCalls(room[:len(code)], regs[:6], out[:3], names[:6], 0) }
		first := fmt.Sprint(call())
		for name, results := range call() {
			checkApart(t, name, results)
			overwrite(results)
			if after := fmt.Sprint(room, regs, out, names); after != before {
				t.Fatal("changed by", name, before, after)
			}
		}
		for _, x := range code {
			for _, results := range instrCalls(x, regs[:6]) {
				overwrite(results)
			}
		}
		if after := fmt.Sprint(room, regs, out, names); after != before {
			t.Fatal("changed", before, after)
		}
		if again := fmt.Sprint(call()); again != first {
			t.Error("other results", first, again)
		}
	}
}

// checkApart overwrites and grows each list of a list of lists, and holds the other ones against what they were.
func checkApart(t *testing.T, name string, results []any) {
	t.Helper()
	lists, ok := results[0].([][]int)
	if !ok {
		return
	}
	want := make([][]int, len(lists))
	for i, list := range lists {
		want[i] = slices.Clone(list)
	}
	for i := range lists {
		overwrite([]any{lists[i]})
		want[i] = slices.Clone(lists[i])
		if !reflect.DeepEqual(fmt.Sprint(lists), fmt.Sprint(want)) {
			t.Fatal(name, "has lists that share memory")
		}
	}
}

// TestPromise11JoinWithItself has code that stands behind itself in memory.
func TestPromise11JoinWithItself(t *testing.T) {
	room := append(counting(2), codeOf(t, "set r0 1", "set r1 1", "set r2 1")...)
	before := copyOfCode(room)
	code, ok := impl.JoinCode(room[:2], room[2:4])
	if !ok || !sameCode(code, before[:4]) {
		t.Error("joined", code, ok)
	}
	overwrite([]any{code})
	if !sameCode(room, before) {
		t.Error("changed", room)
	}
	again, ok := impl.ParseCode("set r2 1\n")
	overwrite([]any{again})
	if code, fine := impl.ParseCode("set r2 1\n"); !ok || !fine || !sameCode(code, before[4:]) {
		t.Error("parsed", code)
	}
}
