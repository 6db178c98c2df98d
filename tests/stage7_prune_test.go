package tests

import (
	"testing"

	"loop.example/g01127/impl"
)

func TestPromise7PrunedByOne(t *testing.T) {
	for _, c := range []struct {
		lines []string
		want  bool
	}{
		{nil, false},
		{[]string{"not r2 r0"}, false},
		// A word of an input: x0 nowhere, x1 only at the end.
		{[]string{"mov r2 r0"}, true},
		{[]string{"mov r2 r1"}, false},
		{[]string{"or r2 r0 r0"}, true},
		{[]string{"or r2 r1 r1"}, false},
		{[]string{"mov r2 r1", "not r3 r0"}, true},
		{[]string{"mov r2 r1", "mov r3 r1"}, true},
		{[]string{"mov r2 r0", "mov r3 r1"}, true},
		{[]string{"not r2 r1", "not r3 r2"}, false},
		{[]string{"not r2 r0", "not r3 r2"}, true},
		{[]string{"not r2 r1", "not r3 r2", "neg r4 r3"}, true},
		{[]string{"not r2 r1", "neg r3 r2", "mov r4 r1"}, false},
		{[]string{"not r2 r1", "neg r3 r2", "mov r4 r0"}, true},
		{[]string{"add r2 r0 r1", "sub r3 r2 r0"}, false},
		{[]string{"add r2 r0 r1", "sub r3 r2 r1"}, true},
		{[]string{"add r2 r0 r1", "sub r3 r2 r0", "not r4 r3"}, true},
		// The word of an instruction before, made in the same way or in another one.
		{[]string{"not r2 r0", "not r3 r0"}, true},
		{[]string{"not r2 r0", "mov r3 r2"}, true},
		{[]string{"not r2 r0", "not r3 r1"}, false},
		{[]string{"add r2 r0 r0", "addi r3 r0 1", "lea r4 r0 r0 1"}, false},
		{[]string{"add r2 r0 r0", "shli r3 r0 1"}, true},
		{[]string{"add r2 r0 r0", "addi r3 r0 1", "shli r4 r0 1"}, true},
		{[]string{"add r2 r0 r0", "shli r3 r0 1", "not r4 r0"}, true},
		{[]string{"set r2 0", "xor r3 r0 r0"}, true},
		{[]string{"set r2 5", "addi r3 r2 1"}, false},
		{[]string{"set r2 5", "mov r3 r1", "set r4 5"}, true},
		{[]string{"set r2 5", "set r3 5"}, true},
		// Operands in the wrong order, at the end or before it.
		{[]string{"add r2 r1 r0"}, true},
		{[]string{"and r2 r1 r0"}, true},
		{[]string{"or r2 r1 r0"}, true},
		{[]string{"xor r2 r1 r0"}, true},
		{[]string{"mul r2 r1 r0"}, true},
		{[]string{"eq r2 r1 r0"}, true},
		{[]string{"eq r2 r1 r0", "not r3 r2"}, true},
		{[]string{"not r2 r0", "add r3 r2 r1"}, true},
		{[]string{"not r2 r0", "add r3 r1 r2"}, false},
		{[]string{"add r2 r0 r1"}, false},
		{[]string{"add r2 r1 r1"}, false},
		{[]string{"and r2 r0 r1"}, false},
		{[]string{"mul r2 r0 r0"}, false},
		{[]string{"eq r2 r0 r0"}, false},
		// Ops whose operands have an order, also where the words do not depend on it.
		{[]string{"sub r2 r1 r0"}, false},
		{[]string{"less r2 r1 r0"}, false},
		{[]string{"shl r2 r1 r0"}, false},
		{[]string{"shr r2 r1 r0"}, false},
		{[]string{"lea r2 r1 r0 1"}, false},
		{[]string{"lea r2 r1 r0 1", "lea r3 r2 r1 1"}, false},
		// Words that are those of x0 or of an instruction before but for a few inputs.
		{[]string{"set r2 62", "less r3 r2 r0", "add r4 r0 r3"}, false},
		{[]string{"set r2 62", "less r3 r2 r1", "xor r4 r0 r3"}, false},
		{[]string{"set r2 0", "eq r3 r0 r2", "or r4 r0 r3"}, false},
		{[]string{"and r2 r0 r1", "eq r3 r1 r2", "less r4 r0 r3"}, false},
		{[]string{"set r2 0", "less r3 r2 r0", "and r4 r0 r3"}, false},
		{[]string{"set r2 0", "less r3 r2 r0", "mul r4 r0 r3"}, true},
	} {
		code := codeOf(t, c.lines...)
		var choice choice
		for _, x := range code {
			choice.Ops = appendNew(choice.Ops, x.Op)
			if rowOf(x.Op).imm {
				choice.Imms = appendNew(choice.Imms, x.Imm)
			}
		}
		if len(code) == 0 {
			choice = choiceOf("mov")
		}
		if is, ok := impl.IsPruned(choice, code); !ok || is != c.want {
			t.Error("pruned", codeLines(code), is, ok)
		}
	}
}

// appendNew puts x behind a list that does not have it.
func appendNew[T comparable](list []T, x T) []T {
	for _, y := range list {
		if y == x {
			return list
		}
	}
	return append(list, x)
}

// TestPromise7PrunedPrograms holds all programs of some choices against the document's words.
func TestPromise7PrunedPrograms(t *testing.T) {
	d := dice(87)
	counts := map[bool]int{}
	for k := range 30 {
		c := d.choice(4)
		if k < 5 {
			c = []choice{choiceOf("add shli", 2), choiceOf("xor"), choiceOf("set mov not neg", 0, 63), choiceOf("lea", 1, 2), choiceOf("set")}[k]
		}
		for n := range 4 {
			if count, _ := impl.CountPrograms(c, n); count > 1500 {
				break
			}
			unpruned := 0
			for _, p := range programsByHand(c, n) {
				want := p.isPruned()
				counts[want]++
				if is, ok := impl.IsPruned(c, p.code); !ok || is != want {
					t.Error("pruned", c, codeLines(p.code), is, want, ok)
				}
				if !want {
					unpruned++
				}
			}
			if count, ok := impl.CountUnpruned(c, n); !ok || count != unpruned {
				t.Error("unpruned", c, n, count, unpruned, ok)
			}
		}
	}
	if counts[true] < 1000 || counts[false] < 1000 {
		t.Error("counts", counts)
	}
}

func TestPromise7UnprunedByOne(t *testing.T) {
	for _, c := range []struct {
		choice choice
		want   []int
	}{
		// The empty program is not pruned, also where there is no other one.
		{choiceOf("set"), []int{1, 0, 0, 0}},
		{choiceOf("set", 7), []int{1, 1, 0, 0}},
		{choiceOf("set", 7, 9), []int{1, 2, 2, 0}},
		// Only x1 at the end: behind it nothing may come.
		{choiceOf("mov"), []int{1, 1, 0, 0}},
		// not x0 and not x1, then the other one, or x1 as not of the second one.
		{choiceOf("not"), []int{1, 2, 3, 2}},
		// r0 r0, r0 r1 and r1 r1, then each of six pairs but the one that was there, then each of ten but the two.
		{choiceOf("add"), []int{1, 3, 15, 120}},
	} {
		for n, want := range c.want {
			if count, ok := impl.CountUnpruned(c.choice, n); !ok || count != want {
				t.Error("unpruned", c.choice, n, count, ok)
			}
		}
	}
	for _, n := range append([]int{4, 5, 40}, extremes...) {
		if count, ok := impl.CountUnpruned(choiceOf("mov"), n); ok != (n >= 0 && n < 4) || !ok && count != 0 {
			t.Error("unpruned", n, count, ok)
		}
	}
}

// TestPromise7PrunedMissesNone has a large choice: what the programs of each rank make is found by the pruned search, as soon as by the other one.
func TestPromise7PrunedMissesNone(t *testing.T) {
	d := dice(88)
	for _, c := range []choice{choiceOf("lea add xor eq", 1, 3), choiceOf("mul less shl or", 5), choiceOf("sub and shri not", 2, 1)} {
		for range 25 {
			count, _ := impl.CountPrograms(c, 3)
			code, _ := impl.ProgramWith(c, 3, d.below(count))
			e, ok := exprOfProgram(t, code)
			if !ok {
				continue
			}
			p, ok := impl.ShortestFor(e, c, 3)
			q, fine := impl.PrunedFor(e, c, 3)
			is, told := impl.IsPruned(c, q)
			if !ok || !fine || len(p) != len(q) || is || !told {
				t.Error("pruned", c, codeLines(code), codeLines(p), codeLines(q), is)
			}
			for _, found := range [][]instr{p, q} {
				if reaches, ok := impl.ProgramReaches(e, c, found); !ok || !reaches {
					t.Error("reaches", c, codeLines(code), codeLines(found))
				}
			}
		}
	}
}
