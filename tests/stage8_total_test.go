package tests

import (
	"fmt"
	"slices"
	"strings"
	"testing"

	"loop.example/g01127/impl"
)

// blockCalls has a call of each function of chapter 8 that takes a block and a register; its results are what it returns.
func blockCalls(code []instr, r int) map[string][]any {
	calls := map[string][]any{}
	keep := func(name string, results ...any) { calls[name] = results }
	e, ok := impl.SymbolOf(code, r)
	keep("SymbolOf", e, ok)
	e, ok = impl.PlainSymbol(code, r)
	keep("PlainSymbol", e, ok)
	list, ok := impl.ReachedWords(code, r)
	keep("ReachedWords", list, ok)
	is, ok := impl.IsUntouched(code, r)
	keep("IsUntouched", is, ok)
	lists, ok := impl.TestsFor([][]instr{code}, r)
	keep("TestsFor", lists, ok)
	lists, ok = impl.TestsFor([][]instr{nil, codeOfOnes(), code}, r)
	keep("TestsFor behind", lists, ok)
	return calls
}

// codeOfOnes returns a block that leaves a 1 in all registers.
func codeOfOnes() []instr {
	var code []instr
	for r := range 6 {
		code = append(code, instr{Op: "set", Dst: r, Imm: 1})
	}
	return code
}

// outCalls has those that take two blocks and registers.
func outCalls(a []instr, b []instr, out []int) map[string][]any {
	calls := map[string][]any{}
	keep := func(name string, results ...any) { calls[name] = results }
	is, ok := impl.AreAlike(a, b, out)
	keep("AreAlike", is, ok)
	is, ok = impl.AreSameBlocks(a, b, out)
	keep("AreSameBlocks", is, ok)
	list, ok := impl.BlockWitness(a, b, out)
	keep("BlockWitness", list, ok)
	s, ok := impl.VerdictOf(a, b, out)
	keep("VerdictOf", s, ok)
	return calls
}

// bothCalls has those that take two blocks alone.
func bothCalls(a []instr, b []instr) map[string][]any {
	calls := map[string][]any{}
	keep := func(name string, results ...any) { calls[name] = results }
	list, ok := impl.SameRegisters(a, b)
	keep("SameRegisters", list, ok)
	list, ok = impl.SwapPath(a, b)
	keep("SwapPath", list, ok)
	return calls
}

func passesCall(a []instr, b []instr, r int, tests [][]int) map[string][]any {
	is, ok := impl.PassesTests(a, b, r, tests)
	return map[string][]any{"PassesTests": {is, ok}}
}

func followCall(code []instr, path []int) map[string][]any {
	followed, ok := impl.FollowPath(code, path)
	return map[string][]any{"FollowPath": {followed, ok}}
}

func orderedCall(e []node) map[string][]any {
	f, ok := impl.OrderedExpr(e)
	return map[string][]any{"OrderedExpr": {f, ok}}
}

func TestPromise11NoBlocks(t *testing.T) {
	good := counting(2)
	for _, code := range noBlocks() {
		before := copyOfCode(code)
		for _, r := range []int{0, 2, 5} {
			checkFailed(t, blockCalls(code, r), false, code)
			checkFailed(t, passesCall(code, good, r, nil), false, code)
			checkFailed(t, passesCall(good, code, r, [][]int{{1, 2}}), false, code)
		}
		for _, out := range [][]int{nil, {2}, allOut} {
			checkFailed(t, outCalls(code, good, out), false, code)
			checkFailed(t, outCalls(good, code, out), false, code)
			checkFailed(t, outCalls(code, code, out), false, code)
		}
		for _, other := range [][]instr{nil, good, code} {
			checkFailed(t, bothCalls(code, other), false, code)
			checkFailed(t, bothCalls(other, code), false, code)
		}
		checkFailed(t, followCall(code, nil), false, code)
		checkFailed(t, followCall(code, []int{0}), false, code)
		if !sameCode(code, before) {
			t.Error("changed", before, code)
		}
	}
}

func TestPromise11NoExpressionsToOrder(t *testing.T) {
	for _, e := range invalidExprs() {
		before := copyOf(e)
		checkFailed(t, orderedCall(e), false, e)
		if !sameList(e, before) {
			t.Error("changed", before, e)
		}
	}
}

// TestPromise11BlocksMeetTheLimit has blocks of no, of 19, of 20 and of 21 instructions.
func TestPromise11BlocksMeetTheLimit(t *testing.T) {
	for _, n := range []int{0, 1, 19, 20, 21, 22, 40, 41} {
		code := counting(n)
		other := append(counting(n), codeOf(t, "set r3 1")...)
		valid := n <= 20
		for r := range 6 {
			checkSuccess(t, blockCalls(code, r), valid, n)
			checkSuccess(t, passesCall(code, code, r, nil), valid, n)
		}
		checkSuccess(t, bothCalls(code, code), valid, n)
		checkSuccess(t, followCall(code, nil), valid, n)
		for _, out := range [][]int{nil, {2}, allOut} {
			calls := outCalls(code, code, out)
			delete(calls, "BlockWitness")
			checkSuccess(t, calls, valid, n)
		}
		if n < 20 {
			checkSuccess(t, outCalls(code, other, allOut), true, n)
		} else {
			checkSuccess(t, outCalls(code, other, allOut), false, n)
			checkSuccess(t, outCalls(other, code, allOut), false, n)
		}
	}
}

// TestPromise11NoRegistersForBlocks has registers that are none, and lists that are not of registers or not strictly increasing.
func TestPromise11NoRegistersForBlocks(t *testing.T) {
	blocks := [][]instr{nil, counting(1), counting(20), codeOf(t, "add r2 r0 r1")}
	for _, r := range append([]int{3, 4, 5, 6, 7}, extremes...) {
		for _, code := range blocks {
			valid := r >= 0 && r < 6
			checkSuccess(t, blockCalls(code, r), valid, r)
			checkSuccess(t, passesCall(code, nil, r, nil), valid, r)
		}
	}
	for _, out := range invalidRegisters() {
		before := slices.Clone(out)
		for _, code := range blocks {
			checkSuccess(t, outCalls(code, code, out), false, out)
			checkSuccess(t, outCalls(code, codeOfOnes(), out), false, out)
		}
		if !sameNumbers(out, before) {
			t.Error("changed", before, out)
		}
	}
}

// TestPromise11NumbersOfBlocks has lists of no blocks, of MaxBlocks and of more, and of blocks one of which is none.
func TestPromise11NumbersOfBlocks(t *testing.T) {
	for _, n := range []int{0, 1, 2, 5, 6, 7, 8, 100} {
		for _, code := range [][]instr{nil, counting(3)} {
			blocks := slices.Repeat([][]instr{code}, n)
			tests, ok := impl.TestsFor(blocks, 2)
			if ok != (n >= 1 && n <= 6) || len(tests) > 0 {
				t.Error("tests", n, tests, ok)
			}
		}
	}
	if tests, ok := impl.TestsFor(nil, 2); ok || len(tests) > 0 {
		t.Error("tests", tests, ok)
	}
	for _, bad := range noBlocks() {
		for place := range 6 {
			blocks := [][]instr{codeOfOnes(), nil, counting(1), counting(2), counting(3), counting(4)}
			blocks[place] = bad
			tests, ok := impl.TestsFor(blocks, 2)
			checkZero(t, "TestsFor", []any{tests, ok}, blocks)
		}
	}
}

// TestPromise11PathsOfAllSizes has indices of all sizes, and paths that are too long.
func TestPromise11PathsOfAllSizes(t *testing.T) {
	apart := setting(0, 1)
	for r := 1; r < 6; r++ {
		apart = append(apart, setting(r, 1)...)
	}
	for _, code := range [][]instr{nil, counting(1), apart[:2], apart, counting(20)} {
		for _, i := range append([]int{3, 4, 5, 6, 18, 19, 20, 21, 40}, extremes...) {
			isSwap := i >= 0 && i < len(code)-1 && code[0].Op == "set"
			for _, path := range [][]int{{i}, {i, i}, {i, i, i}, slices.Repeat([]int{i}, 100)} {
				before := slices.Clone(path)
				checkSuccess(t, followCall(code, path), isSwap, path)
				if !sameNumbers(path, before) {
					t.Error("changed", before, path)
				}
			}
			for _, path := range [][]int{{0, i}, {i, 0}, {0, 1, i, 0}} {
				checkFailed(t, followCall(code, path), isSwap, path)
			}
			checkSuccess(t, followCall(code, slices.Repeat([]int{i}, 101)), false, i)
			checkSuccess(t, followCall(code, slices.Repeat([]int{i}, 1000)), false, i)
		}
	}
}

// TestPromise11RandomBlocks has code, registers, inputs and paths of all sorts, most of them invalid.
func TestPromise11RandomBlocks(t *testing.T) {
	d := dice(107)
	counts := map[bool]int{}
	number := func() int {
		if d.below(6) == 0 {
			return extremes[d.below(len(extremes))]
		}
		return d.below(4)
	}
	for range 600 {
		a := d.code(d.below(6))
		if d.below(8) == 0 {
			a = d.code(18 + d.below(5))
		}
		b := d.variant(a[:min(len(a), 20)])
		if len(a) > 0 && d.below(3) == 0 {
			a[d.below(len(a))] = instr{Op: "add", Dst: number(), A: number(), B: number(), Imm: number()}
		}
		r, out, path := number(), d.registers(), []int{number(), number()}[:d.below(3)]
		if d.below(3) == 0 {
			out = append(out, number())
		}
		tests := [][]int{{d.below(64), d.below(64)}, {number(), number()}, {number()}}[:d.below(4)]
		before := fmt.Sprint(a, b, r, out, path, tests)
		areBlocks := impl.IsCode(a) && len(a) <= 20
		counts[areBlocks]++
		checkSomeSuccess(t, blockCalls(a, r), areBlocks && r >= 0 && r < 6, "SymbolOf PlainSymbol", a)
		areOut := slices.IsSorted(out) && len(slices.Compact(slices.Clone(out))) == len(out) && (len(out) == 0 || out[0] >= 0 && out[len(out)-1] < 6)
		checkSomeSuccess(t, outCalls(a, b, out), areBlocks && areOut, "AreAlike BlockWitness", a)
		checkSomeSuccess(t, bothCalls(b, a), areBlocks, "SwapPath", a)
		areTests := !slices.ContainsFunc(tests, func(test []int) bool { return len(test) != 2 || slices.Min(test) < 0 || slices.Max(test) > 63 })
		checkSomeSuccess(t, passesCall(a, b, r, tests), areBlocks && areTests && r >= 0 && r < 6, "", a)
		checkFailed(t, followCall(a, path), areBlocks, a)
		if after := fmt.Sprint(a, b, r, out, path, tests); after != before {
			t.Error("changed", before, after)
		}
	}
	if counts[true] < 250 || counts[false] < 100 {
		t.Error("counts", counts)
	}
}

// checkSomeSuccess wants calls to succeed, or all of them to fail with zero results; those with names among free may fail anyway.
func checkSomeSuccess(t *testing.T, calls map[string][]any, valid bool, free string, about any) {
	t.Helper()
	checkFailed(t, calls, valid, about)
	for _, name := range strings.Fields(free) {
		if valid {
			delete(calls, name)
		}
	}
	checkSuccess(t, calls, valid, about)
}

// TestPromise11BlocksStay has room behind all arguments, and overwrites and grows every result.
func TestPromise11BlocksStay(t *testing.T) {
	behind := []instr{{Op: "behind", A: 7}, {Op: "behind", B: 8}}
	for _, c := range [][]instr{nil, codeOf(t, "set r2 1"), codeOf(t, "set r3 1", "set r2 2", "add r4 r1 r0"), counting(20), marking(3, 4), codeOf(t, "mov r0 r1", "mov r2 r0")} {
		n := len(c)
		a, b := append(copyOfCode(c), behind...), append(copyOfCode(c), behind...)
		if n > 1 {
			a[0], a[1] = c[1], c[0]
		}
		e := append(parsed(t, "sub(add(x1,x0),add(x0,x1))"), node{Op: "behind", A: 7}, node{Op: "behind", B: 8})
		out, path := []int{1, 2, 4, 77, 88}, []int{0, 0, 77, 88}
		room := [][]int{{3, 4, 77, 88}, {5, 6, 77, 88}, {77, 88}}
		tests := [][]int{room[0][:2], room[1][:2], room[2]}
		blocks := [][]instr{a[:n], b[:n], codeOfOnes(), a, b}
		before := fmt.Sprint(a, b, e, out, path, room, tests, blocks)
		call := func() []map[string][]any {
			lists, ok := impl.TestsFor(blocks[:3], 2)
			list := []map[string][]any{
				{"TestsFor": {lists, ok}}, outCalls(a[:n], b[:n], out[:3]), bothCalls(a[:n], b[:n]), passesCall(a[:n], b[:n], 2, tests[:2]),
				followCall(a[:n], path[:2]), followCall(a[:n], path[:0]), orderedCall(e[:len(e)-2]), bothCalls(a[:n], a[:n]), outCalls(a[:n], nil, out[:0]),
			}
			for r := range 6 {
				list = append(list, blockCalls(a[:n], r))
			}
			return list
		}
		first := fmt.Sprint(call())
		for _, calls := range call() {
			for name, results := range calls {
				checkApart(t, name, results)
				overwrite(results)
				if after := fmt.Sprint(a, b, e, out, path, room, tests, blocks); after != before {
					t.Fatal("changed by", name, before, after)
				}
			}
		}
		if again := fmt.Sprint(call()); again != first {
			t.Error("other results", first, again)
		}
	}
}
