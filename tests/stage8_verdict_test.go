package tests

import (
	"slices"
	"testing"

	"loop.example/g01127/impl"
)

// TestPromise8Example has the example of the document.
func TestPromise8Example(t *testing.T) {
	two := []int{2}
	checkVerdict(t, codeOf(t, "add r2 r0 r1"), codeOf(t, "add r2 r1 r0"), two, "alike", nil)
	checkVerdict(t, codeOf(t, "shli r2 r0 1"), codeOf(t, "add r2 r0 r0"), two, "same", nil)
	checkVerdict(t, codeOf(t, "sub r2 r0 r1"), codeOf(t, "sub r2 r1 r0"), two, "other", []int{0, 1, 2})
}

func TestPromise8VerdictsByOne(t *testing.T) {
	for _, c := range []struct {
		a, b    []string
		out     []int
		want    string
		witness []int
	}{
		// Without registers that are looked at, all blocks are alike.
		{nil, nil, nil, "alike", nil}, {[]string{"set r2 1"}, nil, nil, "alike", nil}, {[]string{"set r2 1"}, []string{"not r2 r0", "not r0 r0"}, nil, "alike", nil},
		// The empty block, and blocks that do nothing.
		{nil, nil, allOut, "alike", nil}, {[]string{"mov r0 r0"}, nil, allOut, "alike", nil}, {[]string{"set r5 0"}, nil, allOut, "alike", nil},
		{[]string{"mov r2 r5"}, nil, allOut, "alike", nil}, {[]string{"set r2 1", "set r2 0"}, nil, allOut, "alike", nil}, {[]string{"add r2 r2 r2"}, nil, allOut, "alike", nil},
		{[]string{"addi r0 r0 0"}, nil, allOut, "same", nil}, {[]string{"mul r0 r0 r0"}, nil, []int{1, 2, 3, 4, 5}, "alike", nil},
		{[]string{"not r0 r0", "not r0 r0"}, nil, allOut, "same", nil}, {[]string{"set r5 1"}, nil, allOut, "other", []int{0, 0, 5}},
		{[]string{"set r5 1"}, nil, []int{0, 1, 2, 3, 4}, "alike", nil}, {[]string{"mov r1 r0"}, nil, allOut, "other", []int{0, 1, 1}},
		{[]string{"mov r0 r1"}, nil, allOut, "other", []int{0, 1, 0}}, {[]string{"mov r2 r0"}, nil, allOut, "other", []int{1, 0, 2}},
		// The same symbols by other instructions.
		{[]string{"addi r2 r0 5"}, []string{"set r2 5", "add r2 r2 r0"}, []int{2}, "alike", nil}, {[]string{"xori r2 r0 5"}, []string{"set r3 5", "xor r2 r0 r3"}, []int{2}, "alike", nil},
		{[]string{"shli r2 r0 5"}, []string{"set r2 5", "shl r2 r0 r2"}, []int{2}, "alike", nil}, {[]string{"shri r2 r0 1"}, []string{"set r3 1", "shr r2 r0 r3"}, []int{2}, "alike", nil},
		{[]string{"lea r2 r0 r1 2"}, []string{"shli r3 r1 2", "add r2 r3 r0"}, []int{2}, "alike", nil}, {[]string{"andi r2 r0 9"}, []string{"set r4 9", "and r2 r4 r0"}, []int{2}, "alike", nil},
		{[]string{"shli r2 r0 5"}, []string{"set r2 5", "shl r2 r0 r2"}, []int{2, 3}, "alike", nil}, {[]string{"shri r2 r0 1"}, []string{"set r3 1", "shr r2 r0 r3"}, []int{2, 3}, "other", []int{0, 0, 3}},
		{[]string{"not r2 r0", "neg r3 r1"}, []string{"neg r3 r1", "not r2 r0"}, allOut, "alike", nil}, {[]string{"set r2 6", "add r2 r2 r2"}, []string{"set r2 12"}, allOut, "alike", nil},
		{[]string{"add r2 r0 r1", "add r3 r1 r0", "sub r4 r2 r3"}, []string{"add r2 r1 r0", "mov r3 r2", "sub r4 r3 r2"}, allOut, "alike", nil},
		// The same words by other symbols.
		{[]string{"mul r2 r0 r3"}, nil, allOut, "same", nil}, {[]string{"sub r2 r0 r1"}, []string{"neg r2 r1", "add r2 r0 r2"}, []int{2}, "same", nil},
		{[]string{"set r3 6", "shl r2 r0 r3"}, []string{"set r3 6"}, allOut, "same", nil}, {[]string{"eq r2 r0 r0"}, []string{"set r2 1"}, allOut, "same", nil},
		{[]string{"add r2 r0 r1", "addi r2 r2 1"}, []string{"addi r2 r0 1", "add r2 r2 r1"}, []int{2}, "same", nil},
		// One register that is not alike is enough.
		{[]string{"add r2 r0 r1", "shli r3 r0 1"}, []string{"add r2 r1 r0", "add r3 r0 r0"}, []int{2, 3}, "same", nil},
		{[]string{"add r2 r0 r1", "shli r3 r0 1"}, []string{"add r2 r1 r0", "add r3 r0 r0"}, []int{2}, "alike", nil},
		{[]string{"add r2 r0 r1", "shli r3 r0 1"}, []string{"add r2 r1 r0", "add r3 r0 r0"}, []int{3}, "same", nil},
		{[]string{"shli r2 r0 1", "add r3 r0 r1"}, []string{"add r2 r0 r0", "add r3 r1 r0"}, []int{2, 3}, "same", nil},
	} {
		a, b := codeOf(t, c.a...), codeOf(t, c.b...)
		checkVerdict(t, a, b, c.out, c.want, c.witness)
		checkAlike(t, a, b, c.out, c.want == "alike", true)
	}
}

// TestPromise8ExchangedOperands has each op with its operands exchanged.
func TestPromise8ExchangedOperands(t *testing.T) {
	for _, op := range twoOperands {
		a, b := codeOf(t, op+" r2 r0 r1"), codeOf(t, op+" r2 r1 r0")
		isExchanged := slices.Contains(exchanged, op)
		checkAlike(t, a, b, []int{2}, isExchanged, true)
		checkAlike(t, a, a, []int{2}, true, true)
		verdict, ok := impl.VerdictOf(a, b, []int{2})
		if want := map[bool]string{true: "alike", false: "other"}[isExchanged]; !ok || verdict != want {
			t.Error("verdict", op, verdict, ok)
		}
		checkAlike(t, codeOf(t, "addi r3 r0 1", op+" r2 r3 r1"), codeOf(t, "addi r3 r0 1", op+" r2 r1 r3"), allOut, isExchanged, true)
		checkAlike(t, codeOf(t, "set r3 9", op+" r2 r3 r1"), codeOf(t, "set r3 9", op+" r2 r1 r3"), allOut, isExchanged, true)
	}
}

// TestPromise8VerdictsWithoutSymbols has symbols that fail: blocks are not alike then, but may be the same.
func TestPromise8VerdictsWithoutSymbols(t *testing.T) {
	many, other := wide(12), append(wide(12), instr{Op: "addi", Dst: 2, A: 2, Imm: 1})
	checkAlike(t, many, many, []int{2}, false, false)
	checkVerdict(t, many, many, []int{2}, "same", nil)
	checkVerdict(t, many, codeOf(t, "set r2 14"), []int{2}, "same", nil)
	checkVerdict(t, many, other, []int{2}, "other", []int{0, 0, 2})
	// The symbols of other registers do not matter, but one that is looked at does, also behind one that is not alike.
	checkAlike(t, many, other, []int{0, 1, 3, 4, 5}, true, true)
	checkVerdict(t, many, other, []int{0, 1, 3, 4, 5}, "alike", nil)
	checkAlike(t, append(copyOfCode(many), codeOf(t, "set r1 9")...), many, []int{1, 2}, false, false)
	checkAlike(t, append(copyOfCode(many), codeOf(t, "set r3 9")...), many, []int{2, 3}, false, false)
	checkAlike(t, many, nil, []int{1, 2}, false, false)
	checkAlike(t, many, nil, nil, true, true)
	checkVerdict(t, many, nil, nil, "alike", nil)
	checkAlike(t, wide(11), wide(11), allOut, true, true)
	checkVerdict(t, wide(11), codeOf(t, "set r2 2"), allOut, "alike", nil)
}

// TestPromise8Witnesses has the least inputs before the least register.
func TestPromise8Witnesses(t *testing.T) {
	for _, c := range []struct {
		a, b []string
		out  []int
		want []int
	}{
		{[]string{"set r4 1", "set r2 1", "set r5 1"}, nil, allOut, []int{0, 0, 2}},
		{[]string{"set r4 1", "set r2 1", "set r5 1"}, nil, []int{3, 4, 5}, []int{0, 0, 4}},
		{[]string{"set r4 1", "set r2 1", "set r5 1"}, nil, []int{5}, []int{0, 0, 5}},
		{[]string{"not r0 r0", "not r1 r1"}, nil, allOut, []int{0, 0, 0}},
		{[]string{"not r0 r0", "not r1 r1"}, nil, []int{1}, []int{0, 0, 1}},
		// The greater register differs for inputs that come first.
		{[]string{"mov r2 r0", "mov r3 r1"}, nil, []int{2, 3}, []int{0, 1, 3}},
		{[]string{"mov r3 r0", "mov r2 r1"}, nil, []int{2, 3}, []int{0, 1, 2}},
		{[]string{"mov r2 r0", "mov r3 r1"}, nil, []int{2}, []int{1, 0, 2}},
		{[]string{"shri r2 r0 5", "shri r5 r1 5"}, nil, allOut, []int{0, 32, 5}},
		{[]string{"shri r2 r0 5", "shri r5 r1 5"}, nil, []int{2}, []int{32, 0, 2}},
		// The last inputs alone.
		{[]string{"and r2 r0 r1", "addi r2 r2 1", "eq r2 r2 r3"}, nil, allOut, []int{63, 63, 2}},
		{[]string{"and r2 r0 r1", "not r2 r2", "eq r5 r2 r3", "set r2 0"}, nil, allOut, []int{63, 63, 5}},
	} {
		checkVerdict(t, codeOf(t, c.a...), codeOf(t, c.b...), c.out, "other", c.want)
	}
}

// TestPromise8MarkedWitnesses has blocks that differ for one pair of inputs alone.
func TestPromise8MarkedWitnesses(t *testing.T) {
	d := dice(102)
	for k := range 60 {
		x0, x1 := d.below(64), d.below(64)
		switch k {
		case 0:
			x0, x1 = 0, 0
		case 1:
			x0, x1 = 63, 63
		}
		marked := marking(x0, x1)
		unmarked := append(copyOfCode(marked), instr{Op: "set", Dst: 2})
		checkVerdict(t, marked, unmarked, allOut, "other", []int{x0, x1, 2})
		checkVerdict(t, marked, unmarked, []int{0, 1, 3, 4, 5}, "alike", nil)
		spread := append(copyOfCode(marked), codeOf(t, "mov r5 r2", "xor r1 r1 r2", "set r2 0")...)
		checkVerdict(t, spread, unmarked, allOut, "other", []int{x0, x1, 1})
		checkVerdict(t, spread, unmarked, []int{0, 2, 5}, "other", []int{x0, x1, 5})
	}
}

// TestPromise8 holds the verdicts on any two blocks, many of them changed into each other, against texts and against all runs.
func TestPromise8(t *testing.T) {
	d := dice(103)
	words := stepper{}
	counts := map[string]int{}
	for k := range 400 {
		a := d.code(d.below(9))
		if k%5 == 0 {
			a = d.chained(d.below(21))
		}
		b := d.variant(a)
		texts, ok := symbolTexts(a)
		others, fine := symbolTexts(b)
		if !ok || !fine {
			continue
		}
		columns, otherColumns := words.blockColumns(a), words.blockColumns(b)
		for _, out := range [][]int{allOut, {2}, {0, 1}, d.registers()} {
			alike, told := areAlikeByHand(texts, others, out)
			witness := blockWitnessByHand(columns, otherColumns, out)
			want := "other"
			switch {
			case alike && witness == nil:
				want = "alike"
			case alike:
				t.Error("alike but not the same", codeLines(a), codeLines(b), out)
			case witness == nil:
				want = "same"
			}
			counts[want]++
			counts["told"] += truth(told)
			checkVerdict(t, a, b, out, want, witness)
			checkAlike(t, a, b, out, alike, told)
		}
	}
	if counts["alike"] < 300 || counts["same"] < 100 || counts["other"] < 200 || counts["told"] < 800 {
		t.Error("counts", counts)
	}
}
