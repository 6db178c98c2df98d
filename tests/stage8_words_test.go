package tests

import (
	"slices"
	"testing"

	"loop.example/g01127/impl"
)

// span returns the words from least to most, step by step.
func span(least int, most int, step int) []int {
	var list []int
	for word := least; word <= most; word += step {
		list = append(list, word)
	}
	return list
}

func TestPromise8WordsByOne(t *testing.T) {
	for _, c := range []struct {
		code []string
		r    int
		want []int
	}{
		{nil, 0, span(0, 63, 1)}, {nil, 1, span(0, 63, 1)}, {nil, 2, []int{0}}, {nil, 5, []int{0}},
		{[]string{"set r0 63"}, 0, []int{63}}, {[]string{"set r2 17"}, 2, []int{17}}, {[]string{"not r2 r2"}, 2, []int{63}},
		{[]string{"less r2 r0 r1"}, 2, []int{0, 1}}, {[]string{"eq r2 r0 r0"}, 2, []int{1}}, {[]string{"less r2 r0 r0"}, 2, []int{0}},
		{[]string{"less r2 r0 r1", "neg r2 r2"}, 2, []int{0, 63}}, {[]string{"andi r2 r0 36"}, 2, []int{0, 4, 32, 36}},
		{[]string{"shri r2 r0 4"}, 2, []int{0, 1, 2, 3}}, {[]string{"shli r2 r1 3"}, 2, span(0, 56, 8)}, {[]string{"shli r2 r1 1", "addi r2 r2 1"}, 2, span(1, 63, 2)},
		{[]string{"add r2 r0 r1"}, 2, span(0, 63, 1)}, {[]string{"mul r2 r0 r1"}, 2, span(0, 63, 1)}, {[]string{"not r0 r0"}, 0, span(0, 63, 1)},
		// A word that is reached once, for the last inputs and for the first ones.
		{[]string{"and r2 r0 r1", "not r2 r2", "eq r2 r2 r3"}, 2, []int{0, 1}}, {[]string{"or r2 r0 r1", "eq r2 r2 r3", "addi r2 r2 9"}, 2, []int{9, 10}},
		{[]string{"less r2 r0 r1", "andi r1 r1 1", "mul r2 r2 r1"}, 1, []int{0, 1}},
	} {
		list, ok := impl.ReachedWords(codeOf(t, c.code...), c.r)
		if !ok || !sameNumbers(list, c.want) {
			t.Error("words", c.code, c.r, list, ok)
		}
	}
	for _, at := range [][]int{{0, 0}, {63, 63}, {0, 63}, {63, 0}, {31, 32}} {
		if list, ok := impl.ReachedWords(marking(at[0], at[1]), 2); !ok || !sameNumbers(list, []int{0, 1}) {
			t.Error("marked", at, list, ok)
		}
	}
}

func TestPromise8UntouchedByOne(t *testing.T) {
	for _, c := range []struct {
		code []string
		want []int
	}{
		{nil, allOut}, {[]string{"mov r0 r0"}, allOut}, {[]string{"mov r4 r4"}, allOut}, {[]string{"set r4 0"}, allOut}, {[]string{"set r0 0"}, []int{1, 2, 3, 4, 5}},
		{[]string{"set r4 1"}, []int{0, 1, 2, 3, 5}}, {[]string{"mov r0 r1"}, []int{1, 2, 3, 4, 5}}, {[]string{"mov r2 r3"}, allOut},
		// Two instructions, the second of which makes the first one good, or does not.
		{[]string{"not r0 r0", "not r0 r0"}, allOut}, {[]string{"addi r1 r1 5", "addi r1 r1 59"}, allOut}, {[]string{"addi r1 r1 5", "addi r1 r1 58"}, []int{0, 2, 3, 4, 5}},
		{[]string{"xori r3 r3 9", "xori r3 r3 9"}, allOut}, {[]string{"set r5 3", "set r5 0"}, allOut}, {[]string{"neg r0 r0", "neg r0 r0"}, allOut},
		{[]string{"shli r0 r0 1", "shri r0 r0 1"}, []int{1, 2, 3, 4, 5}}, {[]string{"mov r2 r0", "set r0 7", "mov r0 r2"}, []int{0, 1, 3, 4, 5}},
		// A multiple of 0, and what is 0 but for some inputs.
		{[]string{"mul r2 r0 r3"}, allOut}, {[]string{"mul r2 r0 r1"}, []int{0, 1, 3, 4, 5}}, {[]string{"and r2 r0 r1", "not r2 r2", "eq r2 r2 r3"}, []int{0, 1, 3, 4, 5}},
		{[]string{"or r2 r0 r1", "eq r2 r2 r3"}, []int{0, 1, 3, 4, 5}}, {[]string{"and r0 r0 r0"}, allOut}, {[]string{"not r0 r0", "not r1 r1", "set r2 1", "set r3 1", "set r4 1", "set r5 1"}, nil},
	} {
		for r := range 6 {
			is, ok := impl.IsUntouched(codeOf(t, c.code...), r)
			if !ok || is != slices.Contains(c.want, r) {
				t.Error("untouched", c.code, r, is, ok)
			}
		}
		checkSameRegisters(t, codeOf(t, c.code...), nil, c.want)
	}
}

// checkSameRegisters wants two blocks to leave the same in these registers alone.
func checkSameRegisters(t *testing.T, a []instr, b []instr, want []int) {
	t.Helper()
	for range 2 {
		list, ok := impl.SameRegisters(a, b)
		if !ok || !sameNumbers(list, want) {
			t.Error("same registers", codeLines(a), "|", codeLines(b), list, ok, want)
		}
		a, b = b, a
	}
}

func TestPromise8SameRegistersByOne(t *testing.T) {
	for _, c := range []struct {
		a, b []string
		want []int
	}{
		{nil, nil, allOut}, {[]string{"add r2 r0 r1"}, []string{"add r3 r0 r1"}, []int{0, 1, 4, 5}}, {[]string{"add r2 r0 r1"}, []string{"add r2 r1 r0"}, allOut},
		{[]string{"shli r2 r0 1"}, []string{"add r2 r0 r0"}, allOut}, {[]string{"sub r2 r0 r1", "set r5 3"}, []string{"sub r2 r1 r0", "set r5 3"}, []int{0, 1, 3, 4, 5}},
		{[]string{"mov r0 r1"}, []string{"mov r1 r0"}, []int{2, 3, 4, 5}}, {[]string{"set r0 1", "set r1 1"}, []string{"set r1 1", "set r0 1"}, allOut},
		{[]string{"set r0 1", "set r1 2", "set r2 3", "set r3 4", "set r4 5", "set r5 6"}, nil, nil},
	} {
		checkSameRegisters(t, codeOf(t, c.a...), codeOf(t, c.b...), c.want)
	}
	checkSameRegisters(t, wide(12), codeOf(t, "set r2 14"), allOut)
	checkSameRegisters(t, marking(63, 63), marking(63, 62), []int{0, 1, 4, 5})
	checkSameRegisters(t, marking(0, 0), append(marking(0, 0), instr{Op: "set", Dst: 2}), []int{0, 1, 3, 4, 5})
}

// TestPromise8Words holds what any blocks leave against all runs.
func TestPromise8Words(t *testing.T) {
	d := dice(104)
	words := stepper{}
	for range 300 {
		a := d.code(d.below(21))
		b := d.variant(a)
		columns, others, first := words.blockColumns(a), words.blockColumns(b), words.blockColumns(nil)
		var same []int
		for r := range 6 {
			if *columns[r] == *others[r] {
				same = append(same, r)
			}
			is, ok := impl.IsUntouched(a, r)
			if !ok || is != (*columns[r] == *first[r]) {
				t.Error("untouched", codeLines(a), r, is, ok)
			}
			want := columns[r].numbers()
			slices.Sort(want)
			list, ok := impl.ReachedWords(a, r)
			if !ok || !sameNumbers(list, slices.Compact(want)) {
				t.Error("words", codeLines(a), r, list, ok)
			}
		}
		checkSameRegisters(t, a, b, same)
	}
}
