package tests

import (
	"fmt"
	"slices"
	"testing"

	"loop.example/g01127/impl"
)

// lengthCalls has a call of each function of chapter 7 that takes a choice and numbers; its results are what it returns.
func lengthCalls(c choice, n int, rank int) map[string][]any {
	calls := map[string][]any{}
	keep := func(name string, results ...any) { calls[name] = results }
	steps, ok := impl.StepsOf(c, n)
	keep("StepsOf", steps, ok)
	count, ok := impl.CountPrograms(c, n)
	keep("CountPrograms", count, ok)
	code, ok := impl.ProgramWith(c, n, rank)
	keep("ProgramWith", code, ok)
	count, ok = impl.CountUnpruned(c, n)
	keep("CountUnpruned", count, ok)
	return calls
}

// programCalls has those that take a choice and code.
func programCalls(e []node, c choice, code []instr) map[string][]any {
	calls := map[string][]any{}
	keep := func(name string, results ...any) { calls[name] = results }
	rank, ok := impl.RankProgram(c, code)
	keep("RankProgram", rank, ok)
	is, ok := impl.IsProgram(c, code)
	keep("IsProgram", is, ok)
	table, ok := impl.ProgramTable(c, code)
	keep("ProgramTable", table, ok)
	is, ok = impl.ProgramReaches(e, c, code)
	keep("ProgramReaches", is, ok)
	is, ok = impl.IsPruned(c, code)
	keep("IsPruned", is, ok)
	return calls
}

// checkSuccess wants calls to succeed, or all of them to fail with zero results.
func checkSuccess(t *testing.T, calls map[string][]any, valid bool, about any) {
	t.Helper()
	checkFailed(t, calls, valid, about)
	for name, results := range calls {
		if results[len(results)-1] != valid {
			t.Error(name, about, results, valid)
		}
	}
}

func TestPromise11InvalidChoices(t *testing.T) {
	e := []node{in(0)}
	for _, c := range invalidChoices() {
		before := fmt.Sprint(c)
		for _, n := range []int{0, 1, 2, 3, -1, 4} {
			checkSuccess(t, lengthCalls(c, n, 0), false, c)
			checkSuccess(t, searchCalls(e, c, n), false, c)
		}
		for _, code := range [][]instr{nil, {}, codeOf(t, "add r2 r0 r0"), codeOf(t, "set r2 1", "mov r3 r0"), make([]instr, 1), counting(41)} {
			checkSuccess(t, programCalls(e, c, code), false, c)
		}
		if after := fmt.Sprint(c); after != before {
			t.Error("changed", before, after)
		}
	}
}

func TestPromise11NoExpressionsForPrograms(t *testing.T) {
	for _, e := range invalidExprs() {
		before := copyOf(e)
		for _, c := range []choice{choiceOf("mov"), choiceOf("add shli", 2), choiceOf("set", 0)} {
			for _, most := range []int{0, 1, 2} {
				checkSuccess(t, searchCalls(e, c, most), false, e)
			}
			for _, code := range [][]instr{nil, codeOf(t, "mov r2 r0"), codeOf(t, "add r2 r0 r1"), codeOf(t, "set r2 0")} {
				is, ok := impl.ProgramReaches(e, c, code)
				checkZero(t, "ProgramReaches", []any{is, ok}, e)
			}
		}
		if !sameList(e, before) {
			t.Error("changed", before, e)
		}
	}
}

// TestPromise11ExtremeLengths has lengths, indices and ranks of all sizes.
func TestPromise11ExtremeLengths(t *testing.T) {
	numbers := append([]int{3, 4, 5, 6, 7, 11, 12, 13, 40}, extremes...)
	for _, c := range []choice{choiceOf("mov"), choiceOf("set addi"), choiceOf("add shli", 2)} {
		for _, n := range numbers {
			for _, rank := range numbers {
				calls := lengthCalls(c, n, rank)
				checkFailed(t, calls, true, n)
				isLength := n >= 0 && n <= 3
				count := 0
				if isLength {
					count = len(programsByHand(c, n))
				}
				for name, want := range map[string]bool{"StepsOf": n >= 0 && n < 3, "CountPrograms": isLength, "CountUnpruned": isLength, "ProgramWith": rank >= 0 && rank < count} {
					if results := calls[name]; results[len(results)-1] != want {
						t.Error(name, c, n, rank, results, want)
					}
				}
			}
		}
	}
}

// TestPromise11RandomPrograms has choices, code and expressions of all sorts, most of them invalid.
func TestPromise11RandomPrograms(t *testing.T) {
	d := dice(89)
	counts := map[bool]int{}
	for range 800 {
		c := d.choice(2)
		code, _ := d.program(c, d.below(4))
		e := d.expr(1 + d.below(5))
		d.spoilChoice(&c)
		if d.below(2) == 0 && len(code) > 0 {
			code[d.below(len(code))].A = extremes[d.below(len(extremes))]
		}
		if d.below(3) == 0 {
			d.spoil(e)
		}
		before := fmt.Sprint(c, code, e)
		isChoice, isExpr := impl.IsChoice(c), impl.IsExpr(e)
		isProgram := isChoice && isProgramByHand(c, code)
		counts[isProgram && isExpr]++
		calls := programCalls(e, c, code)
		checkFailed(t, calls, isChoice, c)
		for name, want := range map[string]bool{"RankProgram": isProgram, "IsProgram": isChoice, "ProgramTable": isProgram, "ProgramReaches": isProgram && isExpr, "IsPruned": isProgram} {
			if results := calls[name]; results[len(results)-1] != want {
				t.Error(name, c, code, e, results, want)
			}
		}
		if is, _ := impl.IsProgram(c, code); is != isProgram {
			t.Error("program", c, code, is)
		}
		checkFailed(t, searchCalls(e, c, d.below(5)-1), isChoice && isExpr, c)
		checkFailed(t, lengthCalls(c, d.below(5)-1, d.below(100)-2), isChoice, c)
		if after := fmt.Sprint(c, code, e); after != before {
			t.Error("changed", before, after)
		}
	}
	if counts[true] < 100 || counts[false] < 300 {
		t.Error("counts", counts)
	}
}

// spoilChoice changes something in most choices.
func (d *dice) spoilChoice(c *choice) {
	switch d.below(8) {
	case 0:
		c.Ops = append(c.Ops, c.Ops[0])
	case 1:
		c.Ops[d.below(len(c.Ops))] = []string{"", "in", "ADD", "add", "mov "}[d.below(5)]
	case 2:
		c.Imms = append(c.Imms, extremes[d.below(len(extremes))])
	case 3:
		c.Ops = nil
	}
}

// TestPromise11ProgramsStay has room behind all arguments, and overwrites and grows every result.
func TestPromise11ProgramsStay(t *testing.T) {
	for _, text := range []string{"x0", "x1", "mul(x0,5)", "mul(x0,8)", "0", "less(x0,x1)"} {
		e := append(parsed(t, text), node{Op: "behind", A: 7}, node{Op: "behind", B: 8})
		ops, imms := []string{"add", "shli", "set", "behind", "behind"}, []int{2, 3, 70, 71}
		code := append(codeOf(t, "shli r2 r0 2", "add r3 r0 r2"), instr{Op: "behind", A: 7}, instr{Op: "behind", B: 8})
		before := fmt.Sprint(e, ops, imms, code)
		c := choice{Ops: ops[:3], Imms: imms[:2]}
		call := func() []map[string][]any {
			list := []map[string][]any{programCalls(e[:len(e)-2], c, code[:2]), programCalls(e[:len(e)-2], c, code[:0])}
			for n := range 4 {
				list = append(list, searchCalls(e[:len(e)-2], c, n), lengthCalls(c, n, n))
			}
			return list
		}
		first := fmt.Sprint(call())
		for _, calls := range call() {
			for name, results := range calls {
				overwrite(results)
				if all, ok := results[0].([][]instr); ok {
					overwritePrograms(all)
				}
				if after := fmt.Sprint(e, ops, imms, code); after != before {
					t.Fatal("changed by", name, before, after)
				}
			}
		}
		if again := fmt.Sprint(call()); again != first {
			t.Error("other results", first, again)
		}
	}
}

func overwritePrograms(all [][]instr) {
	for i := range all {
		overwrite([]any{all[i]})
		all[i] = nil
	}
	_ = append(all, counting(2))
}

// TestPromise11ShortestShareNothing overwrites and grows programs that are returned together, one after the other.
func TestPromise11ShortestShareNothing(t *testing.T) {
	for _, c := range []struct {
		text   string
		choice choice
	}{
		{"mul(x0,3)", choiceOf("add sub")}, {"and(x0,x1)", choiceOf("addi xor or", 1)}, {"0", choiceOf("sub xor")}, {"x0", choiceOf("add")},
	} {
		all, ok := impl.AllShortest(parsed(t, c.text), c.choice, 3)
		if !ok || len(all) == 0 {
			t.Fatal("all", c.text, ok)
		}
		var copies [][]instr
		for _, code := range all {
			copies = append(copies, slices.Clone(code))
		}
		for i := range all {
			for j := i; j < len(all); j++ {
				if !sameCode(all[j], copies[j]) {
					t.Error("changed", c.text, i, j, all[j], copies[j])
				}
			}
			overwrite([]any{all[i]})
		}
	}
}
