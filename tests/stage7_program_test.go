package tests

import (
	"math"
	"slices"
	"testing"

	"loop.example/g01127/impl"
)

func TestPromise7Constants(t *testing.T) {
	if impl.MaxOps != 4 || impl.MaxImms != 2 || impl.MaxLong != 3 || impl.MaxBests != 50 {
		t.Error("constants", impl.MaxOps, impl.MaxImms, impl.MaxLong, impl.MaxBests)
	}
}

func TestPromise7IsChoice(t *testing.T) {
	for _, c := range []choice{
		choiceOf("add"), choiceOf("add shli", 2), choiceOf("add sub xor and"), choiceOf("set mov not neg"), choiceOf("add", 1, 2), choiceOf("set", 0, 63),
		choiceOf("shli shri", 1, 5), choiceOf("lea", 1, 3), choiceOf("lea shli", 3, 1), choiceOf("shli"), choiceOf("set addi andi xori"),
		choiceOf("set addi andi xori", 63, 0), choiceOf("lea mul shl less", 2),
		// Any word will do where no op uses Imm, also one that no instruction beside set and addi could have.
		choiceOf("mov", 0, 63), choiceOf("add sub", 40), choiceOf("shl shr", 63),
		{Ops: []string{"add"}, Imms: []int{}},
	} {
		if !impl.IsChoice(c) {
			t.Error("no choice", c)
		}
	}
	for _, c := range invalidChoices() {
		if impl.IsChoice(c) {
			t.Error("choice", c)
		}
	}
}

// TestPromise7ImmsOfOps has each op with each number, alone and beside an op that uses none.
func TestPromise7ImmsOfOps(t *testing.T) {
	for _, row := range opRows() {
		for imm := -2; imm < 67; imm++ {
			want := imm >= 0 && imm < 64 && (!row.imm || imm >= row.least && imm <= row.most)
			for _, c := range []choice{choiceOf(row.op, imm), {Ops: []string{"mov", row.op}, Imms: []int{imm}}, {Ops: []string{row.op, "mov"}, Imms: []int{imm}}} {
				if row.op != "mov" && impl.IsChoice(c) != want {
					t.Error("choice", c, want)
				}
			}
		}
	}
}

func TestPromise7StepsByOne(t *testing.T) {
	for _, c := range []struct {
		ops  string
		imms []int
		k    int
		want string
	}{
		{"add shli", []int{2}, 0, "add r2 r0 r0, add r2 r0 r1, add r2 r1 r0, add r2 r1 r1, shli r2 r0 2, shli r2 r1 2"},
		{"shli add", []int{2}, 0, "shli r2 r0 2, shli r2 r1 2, add r2 r0 r0, add r2 r0 r1, add r2 r1 r0, add r2 r1 r1"},
		{"set", []int{5, 3}, 0, "set r2 5, set r2 3"},
		{"set", []int{5, 3}, 2, "set r4 5, set r4 3"},
		{"mov", nil, 1, "mov r3 r0, mov r3 r1, mov r3 r2"},
		{"neg not", nil, 0, "neg r2 r0, neg r2 r1, not r2 r0, not r2 r1"},
		{"not neg", []int{9}, 0, "not r2 r0, not r2 r1, neg r2 r0, neg r2 r1"},
		// A and B come before the places of the Imms, which need not be increasing.
		{"lea", []int{3, 1}, 0, "lea r2 r0 r0 3, lea r2 r0 r0 1, lea r2 r0 r1 3, lea r2 r0 r1 1, lea r2 r1 r0 3, lea r2 r1 r0 1, lea r2 r1 r1 3, lea r2 r1 r1 1"},
		{"andi set", []int{63, 0}, 0, "andi r2 r0 63, andi r2 r0 0, andi r2 r1 63, andi r2 r1 0, set r2 63, set r2 0"},
		{"mul", nil, 1, "mul r3 r0 r0, mul r3 r0 r1, mul r3 r0 r2, mul r3 r1 r0, mul r3 r1 r1, mul r3 r1 r2, mul r3 r2 r0, mul r3 r2 r1, mul r3 r2 r2"},
		{"shri", []int{4}, 2, "shri r4 r0 4, shri r4 r1 4, shri r4 r2 4, shri r4 r3 4"},
		{"xori mov", nil, 2, "mov r4 r0, mov r4 r1, mov r4 r2, mov r4 r3"},
		{"set shli addi lea", nil, 1, ""},
	} {
		steps, ok := impl.StepsOf(choiceOf(c.ops, c.imms...), c.k)
		if !ok || codeLines(steps) != c.want {
			t.Error(c.ops, c.imms, c.k, codeLines(steps), ok)
		}
	}
	for _, k := range append([]int{3, 4, 40}, extremes...) {
		if steps, ok := impl.StepsOf(choiceOf("add"), k); ok != (k >= 0 && k < 3) || !ok && len(steps) > 0 {
			t.Error("steps", k, steps, ok)
		}
	}
}

func TestPromise7Steps(t *testing.T) {
	d := dice(80)
	for range 300 {
		c := d.choice(4)
		product := 1
		for k := range 3 {
			want := stepsByHand(c, k)
			steps, ok := impl.StepsOf(c, k)
			if !ok || !sameCode(steps, want) {
				t.Error("steps", c, k, codeLines(steps), codeLines(want), ok)
			}
			for _, x := range steps {
				if !impl.IsInstr(x) {
					t.Error("no instruction", c, x)
				}
			}
			if n, ok := impl.CountPrograms(c, k); !ok || n != product {
				t.Error("count", c, k, n, product)
			}
			product *= len(want)
		}
		if n, ok := impl.CountPrograms(c, 3); !ok || n != product {
			t.Error("count", c, n, product)
		}
	}
}

func TestPromise7CountsByOne(t *testing.T) {
	for _, c := range []struct {
		ops  string
		imms []int
		want []int
	}{
		{"add shli", []int{2}, []int{1, 6, 72, 1440}},
		{"add", nil, []int{1, 4, 36, 576}},
		{"mov", []int{1}, []int{1, 2, 6, 24}},
		{"set", []int{1, 2}, []int{1, 2, 4, 8}},
		{"set", []int{0}, []int{1, 1, 1, 1}},
		{"set addi andi xori", nil, []int{1, 0, 0, 0}},
		{"lea add xor eq", []int{1, 3}, []int{1, 20, 900, 72000}},
		{"lea add xor eq", []int{1}, []int{1, 16, 576, 36864}},
		{"lea add xor eq", nil, []int{1, 12, 324, 15552}},
	} {
		for n, want := range c.want {
			if count, ok := impl.CountPrograms(choiceOf(c.ops, c.imms...), n); !ok || count != want {
				t.Error(c.ops, c.imms, n, count, ok)
			}
		}
	}
	for _, n := range append([]int{4, 5, 40}, extremes...) {
		if count, ok := impl.CountPrograms(choiceOf("set"), n); ok != (n >= 0 && n < 4) || !ok && count != 0 {
			t.Error("count", n, count, ok)
		}
	}
}

// TestPromise7Ranks has all programs of some choices: they are in order, and each one has its rank.
func TestPromise7Ranks(t *testing.T) {
	choices := []choice{
		choiceOf("add shli", 2), choiceOf("shli add", 2), choiceOf("set mov not neg", 5, 0), choiceOf("lea", 3, 1), choiceOf("set"), choiceOf("set mov"),
		choiceOf("mov set", 63), choiceOf("shri less", 5),
	}
	for _, c := range choices {
		for n, programs := range lengthsByHand(c, 3) {
			for rank, p := range programs {
				code, ok := impl.ProgramWith(c, n, rank)
				if !ok || !sameCode(code, p.code) {
					t.Fatal("program", c, n, rank, codeLines(code), codeLines(p.code), ok)
				}
				if r, ok := impl.RankProgram(c, p.code); !ok || r != rank {
					t.Error("rank", c, codeLines(p.code), r, rank, ok)
				}
				if is, ok := impl.IsProgram(c, p.code); !ok || !is {
					t.Error("no program", c, codeLines(p.code), ok)
				}
			}
			checkNoRank(t, c, n, len(programs))
			checkNoRank(t, c, n, len(programs)+1)
			checkNoRank(t, c, n, -1)
			checkNoRank(t, c, n, math.MaxInt)
			checkNoRank(t, c, n, math.MinInt)
		}
	}
}

func checkNoRank(t *testing.T, c choice, n int, rank int) {
	t.Helper()
	if code, ok := impl.ProgramWith(c, n, rank); ok || len(code) > 0 {
		t.Error("program", c, n, rank, codeLines(code))
	}
}

// TestPromise7EndsOfRanks has the first and the last programs of large choices, and others there and back.
func TestPromise7EndsOfRanks(t *testing.T) {
	c := choiceOf("lea add xor eq", 3, 1)
	for _, end := range []struct {
		rank int
		want string
	}{
		{0, "lea r2 r0 r0 3, lea r3 r0 r0 3, lea r4 r0 r0 3"},
		{1, "lea r2 r0 r0 3, lea r3 r0 r0 3, lea r4 r0 r0 1"},
		{79, "lea r2 r0 r0 3, lea r3 r0 r0 3, eq r4 r3 r3"},
		{80, "lea r2 r0 r0 3, lea r3 r0 r0 1, lea r4 r0 r0 3"},
		{3600, "lea r2 r0 r0 1, lea r3 r0 r0 3, lea r4 r0 r0 3"},
		{71999, "eq r2 r1 r1, eq r3 r2 r2, eq r4 r3 r3"},
	} {
		code, ok := impl.ProgramWith(c, 3, end.rank)
		if !ok || codeLines(code) != end.want {
			t.Error("program", end.rank, codeLines(code), ok)
		}
		if rank, ok := impl.RankProgram(c, code); !ok || rank != end.rank {
			t.Error("rank", end.rank, rank, ok)
		}
	}
	checkNoRank(t, c, 3, 72000)
	checkNoRank(t, c, 4, 0)
	checkNoRank(t, c, -1, 0)
	d := dice(81)
	for range 300 {
		c, n := d.choice(4), d.below(4)
		code, ok := d.program(c, n)
		if !ok {
			continue
		}
		rank, ok := impl.RankProgram(c, code)
		again, fine := impl.ProgramWith(c, n, rank)
		if !ok || !fine || !sameCode(code, again) {
			t.Error("there and back", c, codeLines(code), rank, codeLines(again))
		}
	}
}

func TestPromise7EmptyProgram(t *testing.T) {
	for _, c := range []choice{choiceOf("add"), choiceOf("set"), choiceOf("lea mul shl less", 2, 1)} {
		for _, code := range [][]instr{nil, {}} {
			if rank, ok := impl.RankProgram(c, code); !ok || rank != 0 {
				t.Error("rank", c, rank, ok)
			}
			if is, ok := impl.IsProgram(c, code); !ok || !is {
				t.Error("no program", c)
			}
			if table, ok := impl.ProgramTable(c, code); !ok || !sameNumbers(table, inputColumns()[0].numbers()) {
				t.Error("table", c, table, ok)
			}
			for text, want := range map[string]bool{"x0": true, "x1": false, "0": false, "or(x0,0)": true, "not(x0)": false} {
				if is, ok := impl.ProgramReaches(parsed(t, text), c, code); !ok || is != want {
					t.Error("reaches", c, text, is, ok)
				}
			}
		}
		if code, ok := impl.ProgramWith(c, 0, 0); !ok || len(code) > 0 {
			t.Error("program", c, code, ok)
		}
		checkNoRank(t, c, 0, 1)
	}
}

func TestPromise7NoProgramsByOne(t *testing.T) {
	c := choiceOf("add shli set mov", 2, 5)
	for _, lines := range [][]string{
		{"add r3 r0 r1"}, {"add r0 r0 r1"}, {"add r1 r0 r1"}, {"add r2 r0 r1", "add r2 r0 r1"}, {"add r2 r0 r1", "add r4 r0 r1"}, {"add r3 r0 r0", "add r2 r0 r0"},
		{"add r2 r2 r0"}, {"add r2 r0 r2"}, {"add r2 r3 r0"}, {"mov r2 r2"}, {"mov r2 r0", "shli r3 r3 2"}, {"mov r2 r0", "mov r3 r1", "add r4 r0 r4"},
		{"mov r2 r0", "add r3 r0 r5"}, {"sub r2 r0 r1"}, {"addi r2 r0 2"}, {"shri r2 r0 2"}, {"set r2 3"}, {"shli r2 r0 1"}, {"shli r2 r0 4"}, {"set r2 0"},
		{"mov r2 r0", "mov r3 r0", "mov r4 r0", "mov r5 r0"}, {"mov r2 r0", "mov r3 r0", "mov r4 r0", "mov r2 r0"}, {"mov r2 r0", "not r3 r0", "mov r4 r0"},
	} {
		checkNoProgram(t, c, codeOf(t, lines...))
	}
	checkNoProgram(t, choiceOf("shli add"), codeOf(t, "shli r2 r0 2"))
	checkNoProgram(t, choiceOf("lea", 1, 2), codeOf(t, "lea r2 r0 r1 3"))
	for _, x := range invalidInstrs() {
		checkNoProgram(t, c, []instr{x})
		checkNoProgram(t, c, append(codeOf(t, "mov r2 r0"), x))
	}
	for _, code := range invalidCodes() {
		checkNoProgram(t, c, code)
	}
}

// checkNoProgram wants code not to be a program, and what requires one to fail.
func checkNoProgram(t *testing.T, c choice, code []instr) {
	t.Helper()
	if is, ok := impl.IsProgram(c, code); is || !ok {
		t.Error("program", c, code, is, ok)
	}
	rank, ok := impl.RankProgram(c, code)
	checkZero(t, "RankProgram", []any{rank, ok}, code)
	table, ok := impl.ProgramTable(c, code)
	checkZero(t, "ProgramTable", []any{table, ok}, code)
	is, ok := impl.ProgramReaches([]node{in(0)}, c, code)
	checkZero(t, "ProgramReaches", []any{is, ok}, code)
	is, ok = impl.IsPruned(c, code)
	checkZero(t, "IsPruned", []any{is, ok}, code)
}

func TestPromise7ChangedPrograms(t *testing.T) {
	d := dice(82)
	count := 0
	for range 60 {
		c := d.choice(4)
		code, ok := d.program(c, d.below(4))
		if !ok {
			continue
		}
		for _, other := range d.noPrograms(c, code) {
			count++
			checkNoProgram(t, c, other)
		}
	}
	if count < 3000 {
		t.Error("count", count)
	}
}

// TestPromise7Tables holds the results of all programs of some choices against those told by hand, and against what the code leaves in its last register.
func TestPromise7Tables(t *testing.T) {
	d := dice(83)
	for k := range 24 {
		c := []choice{choiceOf("set mov not neg", 5), choiceOf("lea", 2), choiceOf("shl less", 1), d.choice(4)}[min(k, 3)]
		for n, programs := range lengthsByHand(c, 3) {
			for range min(len(programs), 20) {
				p := programs[d.below(len(programs))]
				table, ok := impl.ProgramTable(c, p.code)
				if !ok || !sameNumbers(table, p.result().numbers()) {
					t.Error("table", c, codeLines(p.code), ok)
				}
				x0, x1 := d.below(64), d.below(64)
				if word := resultByHand(p.code, x0, x1, []int{0, 2, 3, 4}[n]); ok && table[64*x0+x1] != word {
					t.Error("word", c, codeLines(p.code), x0, x1, word)
				}
			}
			if len(programs) > 4000 {
				break
			}
		}
	}
}

func TestPromise7ReachesByOne(t *testing.T) {
	c := choiceOf("add set less or", 62, 0)
	for _, r := range []struct {
		text string
		code []instr
		want bool
	}{
		{"add(x0,x1)", codeOf(t, "add r2 r0 r1"), true},
		{"add(x1,x0)", codeOf(t, "add r2 r0 r1"), true},
		{"sub(x0,x1)", codeOf(t, "add r2 r0 r1"), false},
		{"mul(x0,3)", codeOf(t, "add r2 r0 r0", "add r3 r0 r2"), true},
		{"mul(x0,2)", codeOf(t, "add r2 r0 r0", "add r3 r0 r2"), false},
		{"62", codeOf(t, "set r2 62"), true},
		{"sub(0,2)", codeOf(t, "set r2 62"), true},
		{"less(x0,x1)", codeOf(t, "set r2 0", "less r3 r0 r1"), true},
		// Right but where x0 is 63, or but where it is 0.
		{"x0", codeOf(t, "set r2 62", "less r3 r2 r0", "add r4 r0 r3"), false},
		{"or(x0,eq(x0,0))", codeOf(t, "set r2 0", "add r3 r0 r2", "or r4 r0 r3"), false},
		{"xor(x1,and(x1,eq(x1,63)))", codeOf(t, "add r2 r0 r0", "set r3 0", "or r4 r1 r3"), false},
	} {
		if is, ok := impl.ProgramReaches(parsed(t, r.text), c, r.code); !ok || is != r.want {
			t.Error("reaches", r.text, codeLines(r.code), is, ok)
		}
	}
	for _, e := range [][]node{doubling(2), doubling(3)} {
		code := codeOf(t, "add r2 r0 r0", "add r3 r2 r2")[:len(e)-1]
		if is, ok := impl.ProgramReaches(e, c, code); !ok || !is {
			t.Error("shared", e, is, ok)
		}
	}
}

// TestPromise7Reaches has programs with the expressions that they are, also changed for one pair of inputs.
func TestPromise7Reaches(t *testing.T) {
	d := dice(84)
	count := 0
	for k := range 300 {
		c := d.choice(4)
		code, ok := d.program(c, d.below(4))
		if !ok {
			continue
		}
		e, ok := exprOfProgram(t, code)
		if !ok {
			continue
		}
		if is, ok := impl.ProgramReaches(e, c, code); !ok || !is {
			t.Error("reaches", c, codeLines(code), is, ok)
		}
		x0, x1 := d.below(64), d.below(64)
		if k%3 == 0 {
			x0, x1 = 63*(k/3%2), 63*(k/3%2)
		}
		other := markedAt(e, x0, x1, 1<<d.below(6))
		if is, ok := impl.ProgramReaches(other, c, code); impl.IsExpr(other) && (is || !ok) {
			t.Error("reaches", c, codeLines(code), x0, x1, is, ok)
		}
		f := d.expr(1 + d.below(6))
		table, _ := impl.ProgramTable(c, code)
		want := slices.Equal(table, columnOfExpr(f).numbers())
		if is, ok := impl.ProgramReaches(f, c, code); !ok || is != want {
			t.Error("reaches", c, codeLines(code), f, is, ok)
		}
		count++
	}
	if count < 150 {
		t.Error("count", count)
	}
}
