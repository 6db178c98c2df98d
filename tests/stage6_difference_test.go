package tests

import (
	"testing"

	"loop.example/g01127/impl"
)

// checkDifference wants the first inputs for which code is wrong, nil if there are none.
func checkDifference(t *testing.T, e []node, code []instr, r int, want []int) {
	t.Helper()
	x0, x1, ok := impl.DifferenceOf(e, code, r)
	if ok != (want != nil) || ok && (x0 != want[0] || x1 != want[1]) || !ok && x0+x1 != 0 {
		t.Error("difference", e, codeLines(code), r, x0, x1, ok, want)
	}
	if is, ok := impl.ComputesExpr(e, code, r); !ok || is != (want == nil) {
		t.Error("computes", e, codeLines(code), r, is, ok, want)
	}
}

// differenceByHand runs code for all inputs in order until it is wrong.
func differenceByHand(e []node, code []instr, r int) []int {
	for x0 := range 64 {
		for x1 := range 64 {
			values := nodeValues(e, x0, x1)
			if resultByHand(code, x0, x1, r) != values[len(e)-1] {
				return []int{x0, x1}
			}
		}
	}
	return nil
}

func TestPromise6DifferenceByOne(t *testing.T) {
	sum := codeOf(t, "add r0 r0 r1")
	for _, c := range []struct {
		text string
		code []instr
		r    int
		want []int
	}{
		// The inputs stand in their registers, and 0 in all others.
		{"x0", nil, 0, nil},
		{"x1", nil, 1, nil},
		{"0", nil, 2, nil},
		{"0", nil, 5, nil},
		{"x0", nil, 1, []int{0, 1}},
		{"x1", nil, 0, []int{0, 1}},
		{"x0", nil, 2, []int{1, 0}},
		{"x1", nil, 5, []int{0, 1}},
		{"1", nil, 2, []int{0, 0}},
		{"add(x0,x1)", sum, 0, nil},
		{"add(x0,x1)", sum, 1, []int{1, 0}},
		{"x1", sum, 1, nil},
		{"x1", sum, 0, []int{1, 0}},
		{"x0", codeOf(t, "mov r1 r0", "set r0 0"), 1, nil},
		{"x0", codeOf(t, "mov r1 r0", "set r0 0"), 0, []int{1, 0}},
		{"mul(x0,2)", codeOf(t, "shli r2 r0 1"), 2, nil},
		{"mul(x0,2)", codeOf(t, "shl r2 r0 r1"), 2, []int{1, 0}},
		{"mul(x0,2)", codeOf(t, "shli r2 r0 1"), 3, []int{1, 0}},
		{"eq(x0,x0)", codeOf(t, "set r2 1"), 2, nil},
		// The code is right but for the last inputs, or wrong for the first ones alone.
		{"and(x0,x1)", codeOf(t, "and r2 r0 r1", "set r3 63", "eq r3 r2 r3", "xor r2 r2 r3"), 2, []int{63, 63}},
		{"or(x0,x1)", codeOf(t, "or r2 r0 r1", "eq r3 r2 r4", "xor r2 r2 r3"), 2, []int{0, 0}},
		{"x1", codeOf(t, "set r3 62", "less r2 r3 r0", "sub r1 r1 r2"), 1, []int{63, 0}},
		{"less(x0,x1)", codeOf(t, "less r2 r1 r0"), 2, []int{0, 1}},
		{"sub(mul(x0,x1),add(x0,1))", codeOf(t, "mul r2 r0 r1", "addi r3 r0 1", "sub r2 r2 r3"), 3, []int{0, 0}},
	} {
		checkDifference(t, parsed(t, c.text), c.code, c.r, c.want)
	}
}

// TestPromise6DifferenceOfShared has expressions that are no trees.
func TestPromise6DifferenceOfShared(t *testing.T) {
	checkDifference(t, doubling(2), codeOf(t, "shli r2 r0 1"), 2, nil)
	checkDifference(t, doubling(3), codeOf(t, "shli r2 r0 2"), 2, nil)
	checkDifference(t, doubling(3), codeOf(t, "shli r2 r0 1"), 2, []int{1, 0})
	checkDifference(t, doubling(6), codeOf(t, "shli r2 r0 5"), 2, nil)
	checkDifference(t, doubling(24), nil, 3, nil)
	checkDifference(t, doubling(24), nil, 0, []int{1, 0})
}

// TestPromise6MarkedDifferences has code that is right for all inputs but one pair, the first and the last ones among them.
func TestPromise6MarkedDifferences(t *testing.T) {
	d := dice(68)
	for k := range 60 {
		e := d.coverTree(t, 1+d.below(14))
		code, r, ok := impl.SelectBest(e)
		if !ok {
			t.Fatal("no code", e)
		}
		x0, x1 := d.below(64), d.below(64)
		switch k % 4 {
		case 0:
			x0, x1 = 63, 63
		case 1:
			x0, x1 = 0, 0
		}
		for _, mask := range []int{1, 32, 1 + d.below(63)} {
			checkDifference(t, markedAt(e, x0, x1, mask), code, r, []int{x0, x1})
		}
		checkDifference(t, e, code, r, nil)
	}
}

// TestPromise6RandomDifferences has any code, and any of its registers, against any expression.
func TestPromise6RandomDifferences(t *testing.T) {
	d := dice(69)
	counts := map[bool]int{}
	for k := range 400 {
		e, code, r := d.expr(1+d.below(6)), d.code(d.below(6)), d.below(6)
		if right, at, ok := impl.CompileExpr(e); k%2 == 0 && ok {
			code, r = right, at
			if len(code) > 0 && d.below(2) == 0 {
				code[d.below(len(code))] = d.instr()
			}
		}
		want := differenceByHand(e, code, r)
		counts[want == nil]++
		checkDifference(t, e, code, r, want)
	}
	if counts[true] < 80 || counts[false] < 100 {
		t.Error("counts", counts)
	}
}
