package tests

import (
	"slices"
	"testing"

	"loop.example/g01127/impl"
)

func TestPromise8Constants(t *testing.T) {
	if impl.MaxBlocks != 6 || impl.MaxSwaps != 100 {
		t.Error("constants", impl.MaxBlocks, impl.MaxSwaps)
	}
}

// checkSymbol wants a symbol with these nodes.
func checkSymbol(t *testing.T, code []instr, r int, want []node) {
	t.Helper()
	e, ok := impl.SymbolOf(code, r)
	if !ok || !sameList(e, want) {
		t.Error("symbol", codeLines(code), r, e, ok, want)
	}
}

// checkPlain wants a plain symbol with these nodes.
func checkPlain(t *testing.T, code []instr, r int, want []node) {
	t.Helper()
	e, ok := impl.PlainSymbol(code, r)
	if !ok || !sameList(e, want) {
		t.Error("plain symbol", codeLines(code), r, e, ok, want)
	}
}

// checkNoSymbol wants neither a symbol nor a plain one.
func checkNoSymbol(t *testing.T, code []instr, r int) {
	t.Helper()
	e, ok := impl.SymbolOf(code, r)
	f, fine := impl.PlainSymbol(code, r)
	if ok || fine || len(e)+len(f) > 0 {
		t.Error("symbol", codeLines(code), r, e, ok, f, fine)
	}
}

func TestPromise8SymbolsByOne(t *testing.T) {
	for _, c := range []struct {
		code []string
		r    int
		want string
	}{
		// What a block leaves alone holds x0, x1 or 0.
		{nil, 0, "x0"}, {nil, 1, "x1"}, {nil, 2, "0"}, {nil, 3, "0"}, {nil, 4, "0"}, {nil, 5, "0"},
		{[]string{"add r2 r0 r1"}, 0, "x0"}, {[]string{"add r2 r0 r1"}, 1, "x1"}, {[]string{"add r2 r0 r1"}, 3, "0"},
		{[]string{"mov r2 r1"}, 2, "x1"}, {[]string{"mov r0 r0"}, 0, "x0"}, {[]string{"mov r1 r1"}, 1, "x1"}, {[]string{"mov r3 r3"}, 3, "0"},
		{[]string{"mov r0 r5"}, 0, "0"}, {[]string{"set r0 5"}, 0, "5"}, {[]string{"set r1 0"}, 1, "0"}, {[]string{"set r2 63"}, 2, "63"},
		{[]string{"set r2 5", "mov r2 r2"}, 2, "5"}, {[]string{"set r2 5", "set r2 6"}, 2, "6"}, {[]string{"set r2 5", "mov r3 r2", "set r2 6"}, 3, "5"},
		{[]string{"mov r2 r0", "mov r0 r1", "mov r1 r2"}, 0, "x1"}, {[]string{"mov r2 r0", "mov r0 r1", "mov r1 r2"}, 1, "x0"},
		{[]string{"not r2 r0"}, 2, "not(x0)"}, {[]string{"neg r2 r1"}, 2, "neg(x1)"}, {[]string{"not r2 r2"}, 2, "not(0)"},
		{[]string{"add r2 r0 r1"}, 2, "add(x0,x1)"}, {[]string{"add r2 r1 r0"}, 2, "add(x1,x0)"}, {[]string{"sub r2 r1 r0"}, 2, "sub(x1,x0)"},
		{[]string{"mul r2 r0 r0"}, 2, "mul(x0,x0)"}, {[]string{"and r2 r0 r1"}, 2, "and(x0,x1)"}, {[]string{"or r2 r1 r1"}, 2, "or(x1,x1)"},
		{[]string{"xor r2 r0 r2"}, 2, "xor(x0,0)"}, {[]string{"shl r2 r0 r1"}, 2, "shl(x0,x1)"}, {[]string{"shr r2 r1 r0"}, 2, "shr(x1,x0)"},
		{[]string{"less r2 r0 r1"}, 2, "less(x0,x1)"}, {[]string{"eq r2 r1 r0"}, 2, "eq(x1,x0)"},
		// Nothing is folded or left out, and constants are second operands.
		{[]string{"addi r2 r0 5"}, 2, "add(x0,5)"}, {[]string{"addi r2 r0 0"}, 2, "add(x0,0)"}, {[]string{"addi r2 r3 5"}, 2, "add(0,5)"},
		{[]string{"andi r2 r1 63"}, 2, "and(x1,63)"}, {[]string{"xori r2 r0 1"}, 2, "xor(x0,1)"}, {[]string{"shli r2 r0 5"}, 2, "shl(x0,5)"},
		{[]string{"shri r2 r1 1"}, 2, "shr(x1,1)"}, {[]string{"shri r2 r3 3"}, 2, "shr(0,3)"}, {[]string{"sub r2 r0 r0"}, 2, "sub(x0,x0)"},
		{[]string{"lea r2 r0 r1 3"}, 2, "add(x0,shl(x1,3))"}, {[]string{"lea r2 r1 r0 1"}, 2, "add(x1,shl(x0,1))"},
		{[]string{"lea r0 r0 r0 2"}, 0, "add(x0,shl(x0,2))"}, {[]string{"lea r2 r3 r4 1"}, 2, "add(0,shl(0,1))"},
		// Shifts by more than five are nodes as others.
		{[]string{"set r3 6", "shl r2 r0 r3"}, 2, "shl(x0,6)"}, {[]string{"set r3 63", "shr r2 r1 r3"}, 2, "shr(x1,63)"},
		// What an instruction writes is there for the next one, and not for itself.
		{[]string{"add r0 r0 r1", "add r0 r0 r1"}, 0, "add(add(x0,x1),x1)"}, {[]string{"sub r0 r1 r0", "sub r0 r1 r0"}, 0, "sub(x1,sub(x1,x0))"},
		{[]string{"not r0 r0", "not r0 r0"}, 0, "not(not(x0))"}, {[]string{"addi r2 r2 1", "addi r2 r2 1"}, 2, "add(add(0,1),1)"},
		{[]string{"lea r1 r1 r1 1", "lea r1 r0 r1 1"}, 1, "add(x0,shl(add(x1,shl(x1,1)),1))"}, {[]string{"set r2 5", "not r2 r0"}, 2, "not(x0)"},
		{[]string{"add r0 r0 r1", "sub r1 r0 r1", "sub r0 r0 r1"}, 0, "sub(add(x0,x1),sub(add(x0,x1),x1))"},
		{[]string{"shl r0 r0 r1", "set r1 3", "mul r2 r0 r1"}, 2, "mul(shl(x0,x1),3)"},
	} {
		checkSymbol(t, codeOf(t, c.code...), c.r, sharedByHand(c.want))
	}
}

// TestPromise8SharedSymbols has the nodes themselves: equal ones are one, in the order of the walk.
func TestPromise8SharedSymbols(t *testing.T) {
	for _, c := range []struct {
		code []string
		r    int
		want []node
	}{
		{[]string{"add r2 r0 r1", "mul r3 r2 r2"}, 3, []node{in(0), in(1), two("add", 0, 1), two("mul", 2, 2)}},
		{[]string{"sub r2 r1 r0", "sub r3 r1 r0", "or r4 r2 r3"}, 4, []node{in(1), in(0), two("sub", 0, 1), two("or", 2, 2)}},
		{[]string{"addi r2 r0 1", "addi r3 r1 1", "eq r4 r3 r2"}, 4, []node{in(1), constant(1), two("add", 0, 1), in(0), two("add", 3, 1), two("eq", 2, 4)}},
		{[]string{"set r2 2", "lea r3 r2 r0 2"}, 3, []node{constant(2), in(0), two("shl", 1, 0), two("add", 0, 2)}},
		// The 0 of one register is that of another one, and one that has been set.
		{[]string{"add r2 r3 r4"}, 2, []node{constant(0), two("add", 0, 0)}},
		{[]string{"set r3 0", "sub r2 r4 r3"}, 2, []node{constant(0), two("sub", 0, 0)}},
		// The 1 of x1 is no constant.
		{[]string{"addi r2 r1 1"}, 2, []node{in(1), constant(1), two("add", 0, 1)}},
		// Operands in another order make another node.
		{[]string{"add r2 r0 r1", "add r3 r1 r0", "sub r4 r2 r3"}, 4, []node{in(0), in(1), two("add", 0, 1), two("add", 1, 0), two("sub", 2, 3)}},
		// What has been made before is not before in the walk.
		{[]string{"not r2 r0", "neg r3 r1", "less r4 r3 r2"}, 4, []node{in(1), one("neg", 0), in(0), one("not", 2), two("less", 1, 3)}},
	} {
		checkSymbol(t, codeOf(t, c.code...), c.r, c.want)
	}
}

// withNots returns code with n instructions more, each of which makes one node.
func withNots(code []instr, n int) []instr {
	longer := copyOfCode(code)
	for range n {
		longer = append(longer, instr{Op: "not", Dst: 2, A: 2})
	}
	return longer
}

// TestPromise8SymbolsMeetTheLimit has symbols of 24 nodes, and of 25.
func TestPromise8SymbolsMeetTheLimit(t *testing.T) {
	leas := slices.Repeat(codeOf(t, "lea r2 r1 r2 1"), 10)
	four := codeOf(t, "add r2 r2 r0", "add r2 r2 r1", "addi r2 r2 1")
	for _, c := range []struct {
		code  []instr
		nodes int
	}{
		{wide(11), 23}, {withNots(wide(11), 1), 24}, {withNots(wide(11), 2), 25}, {wide(12), 25}, {wide(20), 41},
		{leas, 23}, {withNots(leas, 1), 24}, {withNots(leas, 2), 25}, {append(copyOfCode(leas), leas[0]), 25},
		// With 20 instructions, four leaves are just not too many.
		{withNots(four, 17), 24}, {append(withNots(four, 16), instr{Op: "addi", Dst: 2, A: 2, Imm: 2}), 25},
		// Only different nodes count.
		{counting(20), 22}, {slices.Repeat(codeOf(t, "add r2 r2 r2"), 20), 21}, {slices.Repeat(codeOf(t, "lea r2 r2 r1 1"), 18), 22},
		{slices.Repeat(codeOf(t, "lea r2 r2 r1 1"), 20), 24},
	} {
		e, ok := impl.SymbolOf(c.code, 2)
		if ok != (c.nodes <= 24) || ok && len(e) != c.nodes {
			t.Error("nodes", codeLines(c.code), len(e), ok, c.nodes)
		}
		if !ok {
			checkNoSymbol(t, c.code, 2)
		} else if !impl.IsExpr(e) {
			t.Error("no expression", e)
		}
		// The other registers do not need these nodes.
		checkSymbol(t, c.code, 0, []node{in(0)})
		checkSymbol(t, c.code, 5, []node{constant(0)})
	}
	checkSymbol(t, slices.Repeat(codeOf(t, "add r0 r0 r0"), 20), 0, doubling(21))
	checkSymbol(t, append(wide(19), instr{Op: "set", Dst: 2, Imm: 7}), 2, []node{constant(7)})
	checkSymbol(t, append(wide(19), instr{Op: "mov", Dst: 2, A: 1}), 2, []node{in(1)})
}

func TestPromise8PlainByOne(t *testing.T) {
	for _, c := range []struct {
		code []string
		r    int
		want string
	}{
		{nil, 0, "x0"}, {nil, 1, "x1"}, {nil, 2, "0"},
		{[]string{"add r2 r1 r0"}, 2, "add(x0,x1)"}, {[]string{"sub r2 r1 r0"}, 2, "sub(x1,x0)"},
		// Constants fold, also those that have been made so, and shifts by more than five.
		{[]string{"set r2 3", "set r3 4", "mul r2 r2 r3"}, 2, "12"}, {[]string{"add r2 r3 r4"}, 2, "0"}, {[]string{"not r2 r2"}, 2, "63"},
		{[]string{"addi r2 r3 5"}, 2, "5"}, {[]string{"addi r2 r2 40", "addi r2 r2 40", "neg r2 r2"}, 2, "48"},
		{[]string{"set r3 6", "set r4 1", "shl r2 r4 r3"}, 2, "0"}, {[]string{"set r3 5", "set r4 1", "shl r2 r4 r3"}, 2, "32"},
		{[]string{"set r3 6", "shl r2 r0 r3"}, 2, "shl(x0,6)"}, {[]string{"lea r2 r3 r4 1"}, 2, "0"}, {[]string{"lea r2 r3 r0 1"}, 2, "add(0,shl(x0,1))"},
		// After that operands are put in order.
		{[]string{"set r3 5", "sub r4 r3 r5", "add r2 r4 r0"}, 2, "add(x0,5)"}, {[]string{"addi r2 r3 9", "xori r4 r5 8", "mul r2 r2 r0", "and r2 r2 r4"}, 2, "and(8,mul(x0,9))"},
		{[]string{"not r3 r0", "set r2 7", "or r2 r3 r2"}, 2, "or(7,not(x0))"}, {[]string{"andi r2 r0 3"}, 2, "and(x0,3)"},
		// Nothing else is made simpler.
		{[]string{"addi r2 r0 0"}, 2, "add(x0,0)"}, {[]string{"sub r2 r0 r0"}, 2, "sub(x0,x0)"}, {[]string{"not r2 r0", "not r2 r2"}, 2, "not(not(x0))"},
		{[]string{"add r2 r0 r0"}, 2, "add(x0,x0)"}, {[]string{"shli r2 r0 1"}, 2, "shl(x0,1)"}, {[]string{"mul r2 r0 r3"}, 2, "mul(x0,0)"},
		// Constants that only folding makes equal are one.
		{[]string{"set r2 3", "addi r3 r2 1", "addi r4 r0 4", "mul r5 r3 r4"}, 5, "mul(4,add(x0,4))"},
		{[]string{"sub r2 r0 r1", "addi r3 r2 4", "set r4 2", "add r4 r4 r4", "add r5 r4 r2", "less r2 r3 r5"}, 2, "less(add(4,sub(x0,x1)),add(4,sub(x0,x1)))"},
	} {
		checkPlain(t, codeOf(t, c.code...), c.r, sharedByHand(c.want))
	}
}

// TestPromise8PlainFailsAsSymbols has symbols with too many nodes that would fold to one.
func TestPromise8PlainFailsAsSymbols(t *testing.T) {
	checkPlain(t, wide(11), 2, []node{constant(2)})
	checkPlain(t, withNots(wide(11), 1), 2, []node{constant(61)})
	checkNoSymbol(t, wide(12), 2)
	checkNoSymbol(t, append(wide(12), instr{Op: "mul", Dst: 2, A: 2, B: 5}), 2)
}

// TestPromise8Symbols holds symbols of any blocks against texts, and against what the blocks leave for all inputs.
func TestPromise8Symbols(t *testing.T) {
	d := dice(100)
	words := stepper{}
	counts := map[bool]int{}
	for k := range 500 {
		code := d.code(d.below(8))
		switch k % 4 {
		case 0:
			code = d.code(d.below(21))
		case 1:
			code = d.chained(5 + d.below(16))
		}
		texts, ok := symbolTexts(code)
		if !ok {
			continue
		}
		columns := words.blockColumns(code)
		for r, text := range texts {
			want := sharedByHand(text)
			counts[len(want) <= 24]++
			if len(want) > 24 {
				checkNoSymbol(t, code, r)
				continue
			}
			checkSymbol(t, code, r, want)
			plain, _ := plainByHand(text)
			checkPlain(t, code, r, plain)
			checkLeaves(t, code, r, want, columns[r])
			checkLeaves(t, code, r, plain, columns[r])
		}
	}
	if counts[true] < 1500 || counts[false] < 20 {
		t.Error("counts", counts)
	}
}

// checkLeaves wants an expression that has just been found to be a symbol to have the values that a block leaves.
func checkLeaves(t *testing.T, code []instr, r int, e []node, left *column) {
	t.Helper()
	table, ok := impl.TableOf(e)
	if !ok || !sameNumbers(table, left.numbers()) {
		t.Error("values", codeLines(code), r, e)
	}
}
