package tests

import (
	"slices"
	"testing"

	"loop.example/g01127/impl"
)

func TestPromise7Example(t *testing.T) {
	c := choiceOf("add shli", 2)
	e := parsed(t, "mul(x0,5)")
	for _, most := range []int{2, 3} {
		if code, ok := impl.ShortestFor(e, c, most); !ok || codeLines(code) != "shli r2 r0 2, add r3 r0 r2" {
			t.Error("shortest", most, codeLines(code), ok)
		}
		if n, ok := impl.FewestSteps(e, c, most); !ok || n != 2 {
			t.Error("fewest", most, n, ok)
		}
		if all, ok := impl.AllShortest(e, c, most); !ok || linesOfAll(all) != "shli r2 r0 2, add r3 r0 r2; shli r2 r0 2, add r3 r2 r0; " {
			t.Error("all", most, linesOfAll(all), ok)
		}
		if code, ok := impl.PrunedFor(e, c, most); !ok || codeLines(code) != "shli r2 r0 2, add r3 r0 r2" {
			t.Error("pruned", most, codeLines(code), ok)
		}
	}
	for _, most := range []int{0, 1} {
		checkUnreached(t, e, c, most)
	}
}

// linesOfAll tells the texts of programs, each one ended by a semicolon.
func linesOfAll(all [][]instr) string {
	text := ""
	for _, code := range all {
		text += codeLines(code) + "; "
	}
	return text
}

// checkUnreached wants all searches to fail.
func checkUnreached(t *testing.T, e []node, c choice, most int) {
	t.Helper()
	checkFailed(t, searchCalls(e, c, most), false, e)
}

// searchCalls has a call of each function of chapter 7 that searches for an expression.
func searchCalls(e []node, c choice, most int) map[string][]any {
	calls := map[string][]any{}
	keep := func(name string, results ...any) { calls[name] = results }
	code, ok := impl.ShortestFor(e, c, most)
	keep("ShortestFor", code, ok)
	n, ok := impl.FewestSteps(e, c, most)
	keep("FewestSteps", n, ok)
	all, ok := impl.AllShortest(e, c, most)
	keep("AllShortest", all, ok)
	code, ok = impl.CheapestFor(e, c, most)
	keep("CheapestFor", code, ok)
	code, ok = impl.PrunedFor(e, c, most)
	keep("PrunedFor", code, ok)
	return calls
}

func TestPromise7ShortestByOne(t *testing.T) {
	for _, c := range []struct {
		text     string
		choice   choice
		most     int
		shortest string
		cheapest string
		count    int
	}{
		// The empty program reaches x0, whatever the choice.
		{"x0", choiceOf("mov"), 3, "", "", 1},
		{"x0", choiceOf("set"), 0, "", "", 1},
		{"and(x0,x0)", choiceOf("and"), 3, "", "", 1},
		{"sub(add(x0,x1),x1)", choiceOf("add sub"), 1, "", "", 1},
		{"x1", choiceOf("mov"), 1, "mov r2 r1", "mov r2 r1", 1},
		{"x1", choiceOf("not mov"), 3, "mov r2 r1", "mov r2 r1", 1},
		{"x1", choiceOf("or and"), 3, "or r2 r1 r1", "or r2 r1 r1", 2},
		{"x1", choiceOf("not"), 3, "not r2 r1, not r3 r2", "not r2 r1, not r3 r2", 1},
		{"x1", choiceOf("xori addi", 0), 2, "xori r2 r1 0", "xori r2 r1 0", 2},
		{"5", choiceOf("set", 3, 5), 1, "set r2 5", "set r2 5", 1},
		{"0", choiceOf("xor sub"), 3, "xor r2 r0 r0", "xor r2 r0 r0", 4},
		{"1", choiceOf("eq"), 3, "eq r2 r0 r0", "eq r2 r0 r0", 2},
		{"sub(x1,x0)", choiceOf("sub"), 1, "sub r2 r1 r0", "sub r2 r1 r0", 1},
		{"add(x0,x1)", choiceOf("add"), 2, "add r2 r0 r1", "add r2 r0 r1", 2},
		{"neg(x0)", choiceOf("not addi", 1), 2, "not r2 r0, addi r3 r2 1", "not r2 r0, addi r3 r2 1", 1},
		{"mul(x0,9)", choiceOf("lea", 3), 1, "lea r2 r0 r0 3", "lea r2 r0 r0 3", 1},
		{"mul(x0,27)", choiceOf("lea", 3, 1), 3, "lea r2 r0 r0 3, lea r3 r2 r2 1", "lea r2 r0 r0 3, lea r3 r2 r2 1", 2},
		{"mul(x0,27)", choiceOf("lea", 1, 3), 3, "lea r2 r0 r0 1, lea r3 r2 r2 3", "lea r2 r0 r0 1, lea r3 r2 r2 3", 2},
		{"mul(x0,8)", choiceOf("add"), 3, "add r2 r0 r0, add r3 r2 r2, add r4 r3 r3", "add r2 r0 r0, add r3 r2 r2, add r4 r3 r3", 1},
		// Ops come by their places in the choice, not by their names or costs.
		{"mul(x0,2)", choiceOf("shli add", 1), 3, "shli r2 r0 1", "shli r2 r0 1", 2},
		{"mul(x0,2)", choiceOf("add shli", 1), 3, "add r2 r0 r0", "add r2 r0 r0", 2},
		// A cheaper one is longer.
		{"mul(x0,8)", choiceOf("set mul add", 8), 3, "set r2 8, mul r3 r0 r2", "add r2 r0 r0, add r3 r2 r2, add r4 r3 r3", 2},
		{"mul(x0,8)", choiceOf("add mul set", 8), 2, "set r2 8, mul r3 r0 r2", "set r2 8, mul r3 r0 r2", 2},
		// A longer one costs the same.
		{"mul(x0,8)", choiceOf("add set shl", 3), 3, "set r2 3, shl r3 r0 r2", "set r2 3, shl r3 r0 r2", 1},
		// A cheaper one of the same length comes later.
		{"mul(x0,16)", choiceOf("set mul shl", 16, 4), 2, "set r2 16, mul r3 r0 r2", "set r2 4, shl r3 r0 r2", 3},
		{"mul(x0,4)", choiceOf("set shl shli add", 2, 4), 3, "shli r2 r0 2", "shli r2 r0 2", 1},
		{"mul(x0,4)", choiceOf("set shl add", 2, 4), 3, "set r2 2, shl r3 r0 r2", "add r2 r0 r0, add r3 r2 r2", 2},
		// All of the same cost: the first one.
		{"mul(x0,3)", choiceOf("add sub"), 3, "add r2 r0 r0, add r3 r0 r2", "add r2 r0 r0, add r3 r0 r2", 2},
	} {
		checkSearch(t, c.text, c.choice, c.most, c.shortest, c.cheapest, c.count)
	}
}

// checkSearch wants the shortest and the cheapest program by their texts, and the number of the shortest ones.
func checkSearch(t *testing.T, text string, c choice, most int, shortest string, cheapest string, count int) {
	t.Helper()
	e := parsed(t, text)
	code, ok := impl.ShortestFor(e, c, most)
	if !ok || codeLines(code) != shortest {
		t.Error("shortest", text, c, most, codeLines(code), ok)
	}
	if n, ok := impl.FewestSteps(e, c, most); !ok || n != len(code) {
		t.Error("fewest", text, c, most, n, ok)
	}
	if all, ok := impl.AllShortest(e, c, most); !ok || len(all) != count || !sameCode(all[0], code) {
		t.Error("all", text, c, most, linesOfAll(all), ok)
	}
	if code, ok := impl.CheapestFor(e, c, most); !ok || codeLines(code) != cheapest {
		t.Error("cheapest", text, c, most, codeLines(code), ok)
	}
	if code, ok := impl.PrunedFor(e, c, most); !ok || codeLines(code) != shortest {
		t.Error("pruned", text, c, most, codeLines(code), ok)
	}
}

func TestPromise7Unreached(t *testing.T) {
	for _, c := range []struct {
		text   string
		choice choice
		most   int
	}{
		{"x1", choiceOf("mov"), 0}, {"0", choiceOf("set", 0), 0}, {"x1", choiceOf("set", 0), 3}, {"5", choiceOf("set", 3), 3}, {"x1", choiceOf("not"), 1},
		{"mul(x0,8)", choiceOf("add"), 2}, {"not(x0)", choiceOf("and or"), 3}, {"x1", choiceOf("lea shli set"), 3}, {"mul(x0,x1)", choiceOf("add sub xor less"), 3},
		// Programs that are right for all inputs but a few.
		{"xor(x0,eq(x0,63))", choiceOf("mov xor"), 3}, {"or(x0,eq(x0,0))", choiceOf("mov or"), 3}, {"and(x1,not(eq(mul(x0,x1),1)))", choiceOf("mov"), 3},
	} {
		checkUnreached(t, parsed(t, c.text), c.choice, c.most)
	}
}

// TestPromise7AlmostReached has goals that are a program's result but for one pair of inputs.
func TestPromise7AlmostReached(t *testing.T) {
	for _, at := range [][]int{{0, 0}, {63, 63}, {0, 63}, {17, 40}} {
		for _, text := range []string{"x0", "x1", "add(x0,x1)", "5"} {
			e := markedAt(parsed(t, text), at[0], at[1], 1)
			checkUnreached(t, e, choiceOf("mov set add", 5), 3)
			checkUnreached(t, e, choiceOf("mov set add", 5), 0)
		}
	}
}

func TestPromise7Shared(t *testing.T) {
	if code, ok := impl.ShortestFor(doubling(3), choiceOf("add"), 3); !ok || codeLines(code) != "add r2 r0 r0, add r3 r2 r2" {
		t.Error("shared", codeLines(code), ok)
	}
	if code, ok := impl.CheapestFor(doubling(24), choiceOf("set", 0), 3); !ok || codeLines(code) != "set r2 0" {
		t.Error("shared", codeLines(code), ok)
	}
}

// TestPromise7MaxBests has 50 shortest programs, and more.
func TestPromise7MaxBests(t *testing.T) {
	for _, c := range []struct {
		text   string
		choice choice
		count  int
	}{
		{"and(x0,x1)", choiceOf("addi xor or", 1), 48},
		{"0", choiceOf("set lea eq", 1), 50},
		{"add(mul(x0,3),x1)", choiceOf("sub shli add", 1, 2), 51},
		{"1", choiceOf("set not less shr", 5, 21), 51},
		{"0", choiceOf("shl neg not shli"), 52},
		{"0", choiceOf("lea eq shl addi"), 54},
		{"0", choiceOf("mov set", 5), 0},
	} {
		e := parsed(t, c.text)
		reaching := reachingByHand(lengthsByHand(c.choice, 3), columnOfExpr(e))
		if shortest := shortestByHand(reaching); len(shortest) != c.count {
			t.Fatal("count", c.text, c.choice, len(shortest))
		}
		checkSearches(t, e, c.choice, 3, reaching)
		all, ok := impl.AllShortest(e, c.choice, 3)
		if ok != (c.count > 0 && c.count <= 50) || ok && len(all) != c.count || !ok && len(all) > 0 {
			t.Error("all", c.text, c.choice, len(all), ok)
		}
	}
}

// checkSearches holds all searches against the programs that reach e, in lists by their lengths.
func checkSearches(t *testing.T, e []node, c choice, most int, reaching [][]toldProgram) {
	t.Helper()
	reaching = reaching[:most+1]
	shortest := shortestByHand(reaching)
	if len(shortest) == 0 {
		checkUnreached(t, e, c, most)
		return
	}
	want := shortest[0].code
	if code, ok := impl.ShortestFor(e, c, most); !ok || !sameCode(code, want) {
		t.Error("shortest", e, c, most, codeLines(code), codeLines(want), ok)
	}
	if n, ok := impl.FewestSteps(e, c, most); !ok || n != len(want) {
		t.Error("fewest", e, c, most, n, len(want), ok)
	}
	all, ok := impl.AllShortest(e, c, most)
	same := slices.EqualFunc(all, shortest, func(code []instr, p toldProgram) bool { return sameCode(code, p.code) })
	if len(shortest) > 50 && (ok || len(all) > 0) || len(shortest) <= 50 && (!ok || !same) {
		t.Error("all", e, c, most, linesOfAll(all), len(shortest), ok)
	}
	cheapest := cheapestByHand(reaching)
	if code, ok := impl.CheapestFor(e, c, most); !ok || !sameCode(code, cheapest) {
		t.Error("cheapest", e, c, most, codeLines(code), codeLines(cheapest), ok)
	}
	unpruned, is := unprunedByHand(reaching)
	if code, ok := impl.PrunedFor(e, c, most); !is || !ok || !sameCode(code, unpruned) || len(code) != len(want) {
		t.Error("pruned", e, c, most, codeLines(code), codeLines(unpruned), ok)
	}
	if is, ok := impl.ProgramReaches(e, c, want); !ok || !is {
		t.Error("reaches", e, c, codeLines(want))
	}
}

// TestPromise7RandomSearches has goals that programs reach, and others, with each most.
func TestPromise7RandomSearches(t *testing.T) {
	d := dice(85)
	counts := map[int]int{}
	for range 180 {
		c := d.choice(4)
		long := 3
		for count, ok := impl.CountPrograms(c, long); !ok || count > 2000; count, ok = impl.CountPrograms(c, long) {
			long--
		}
		lengths := lengthsByHand(c, long)
		for k := range 4 {
			e := d.expr(1 + d.below(6))
			n := d.below(long + 1)
			if k > 1 {
				n = long
			}
			if code, ok := d.program(c, n); k > 0 && ok {
				if f, ok := exprOfProgram(t, code); ok {
					e = f
				}
			}
			reaching := reachingByHand(lengths, columnOfExpr(e))
			for most := range long + 1 {
				checkSearches(t, e, c, most, reaching)
			}
			if shortest := shortestByHand(reaching); len(shortest) > 0 {
				counts[len(shortest[0].code)]++
			}
		}
	}
	for n := range 4 {
		if counts[n] < 10 {
			t.Error("counts", counts)
		}
	}
}

// TestPromise7CheaperPrograms has ops of other costs, and as goals all results whose cheapest program is not the first one of the shortest.
func TestPromise7CheaperPrograms(t *testing.T) {
	longer, later := 0, 0
	for _, c := range []choice{choiceOf("mul add set", 8, 6), choiceOf("shl add set", 3), choiceOf("set shl mul", 2, 1), choiceOf("mul set addi", 2)} {
		lengths := lengthsByHand(c, 3)
		for _, code := range firstPrograms(lengths) {
			e, ok := exprOfProgram(t, code)
			cost, _ := impl.CodeCost(code)
			if !ok || cost <= len(code) {
				continue
			}
			reaching := reachingByHand(lengths, columnOfExpr(e))
			cheapest, first := cheapestByHand(reaching), shortestByHand(reaching)[0].code
			if sameCode(cheapest, first) {
				continue
			}
			checkSearches(t, e, c, 3, reaching)
			if len(cheapest) > len(first) {
				longer++
			} else {
				later++
			}
		}
	}
	if longer < 5 || later < 5 {
		t.Error("counts", longer, later)
	}
}

// firstPrograms returns for each result the first one of the shortest programs.
func firstPrograms(lengths [][]toldProgram) [][]instr {
	seen := map[column]bool{}
	var list [][]instr
	for _, p := range slices.Concat(lengths...) {
		if !seen[*p.result()] {
			list = append(list, p.code)
		}
		seen[*p.result()] = true
	}
	return list
}

// TestPromise7LengthsOfSearches has lengths out of 0..MaxLong.
func TestPromise7LengthsOfSearches(t *testing.T) {
	for _, most := range append([]int{3, 4, 5, 40}, extremes...) {
		calls := searchCalls([]node{in(0)}, choiceOf("mov"), most)
		valid := most >= 0 && most <= 3
		checkFailed(t, calls, valid, most)
		for name, results := range calls {
			if results[len(results)-1] != valid {
				t.Error(name, most, results)
			}
		}
	}
}
