package tests

import (
	"cmp"
	"math"
	"slices"
	"strings"
	"testing"

	"loop.example/g01127/impl"
)

type choice = impl.Choice

// choiceOf returns the choice with ops that have blanks between them.
func choiceOf(ops string, imms ...int) choice {
	return choice{Ops: strings.Fields(ops), Imms: imms}
}

// column has a word for all inputs, that for x0 and x1 at the index 64 x0 + x1.
type column [4096]byte

func inputColumns() []*column {
	var x0, x1 column
	for i := range 4096 {
		x0[i], x1[i] = byte(i/64), byte(i%64)
	}
	return []*column{&x0, &x1}
}

// numbers tells a column as a table is told.
func (c *column) numbers() []int {
	var list []int
	for _, word := range c {
		list = append(list, int(word))
	}
	return list
}

func columnOfExpr(e []node) *column {
	var c column
	for i := range c {
		values := nodeValues(e, i/64, i%64)
		c[i] = byte(values[len(e)-1])
	}
	return &c
}

// stepper knows for some ops and Imms what they write for two words.
type stepper map[instr]*[64][64]byte

// column tells what x writes for all inputs, where columns are those of the registers.
func (s stepper) column(x instr, columns []*column) *column {
	plain := instr{Op: x.Op, Dst: 2, A: 0, B: 1, Imm: x.Imm}
	words := s[plain]
	if words == nil {
		words = new([64][64]byte)
		for a := range 64 {
			for b := range 64 {
				words[a][b] = byte(stepByHand(plain, []int{a, b, 0, 0, 0, 0})[2])
			}
		}
		s[plain] = words
	}
	var c column
	for i := range c {
		c[i] = words[columns[x.A][i]][columns[x.B][i]]
	}
	return &c
}

// toldProgram is a program, with the columns of the inputs and of what its instructions write.
type toldProgram struct {
	code    []instr
	columns []*column
}

func (p toldProgram) result() *column {
	if len(p.code) == 0 {
		return p.columns[0]
	}
	return p.columns[len(p.columns)-1]
}

func (p toldProgram) cost() int {
	cost := 0
	for _, x := range p.code {
		cost += rowOf(x.Op).cost
	}
	return cost
}

// isPruned tells it by the document's own words.
func (p toldProgram) isPruned() bool {
	turning := []string{"add", "and", "or", "xor", "mul", "eq"}
	for k, x := range p.code {
		if slices.Contains(turning, x.Op) && x.A > x.B {
			return true
		}
		for r := range 2 + k {
			mayBe := k == len(p.code)-1 && r == 1
			if *p.columns[2+k] == *p.columns[r] && !mayBe {
				return true
			}
		}
	}
	return false
}

// isStep tells whether an instruction may be that with the index k of a program.
func isStep(c choice, k int, x instr) bool {
	return slices.Contains(c.Ops, x.Op) && isStepOf(rowOf(x.Op), c, k, x)
}

// isStepOf tells it of an instruction with the op of a row.
func isStepOf(row opRow, c choice, k int, x instr) bool {
	return x.Dst == 2+k && isField(x.A, row.a, 2+k) && isField(x.B, row.b, 2+k) && (row.imm && slices.Contains(c.Imms, x.Imm) || !row.imm && x.Imm == 0)
}

func isField(r int, isUsed bool, end int) bool {
	return isUsed && r >= 0 && r < end || !isUsed && r == 0
}

// stepsByHand tries all instructions, and orders those that are steps.
func stepsByHand(c choice, k int) []instr {
	var steps []instr
	for _, op := range c.Ops {
		row := rowOf(op)
		for a := range 6 {
			for b := range 6 {
				for imm := range 64 {
					if x := (instr{Op: op, Dst: 2 + k, A: a, B: b, Imm: imm}); isStepOf(row, c, k, x) {
						steps = append(steps, x)
					}
				}
			}
		}
	}
	slices.SortFunc(steps, func(x, y instr) int {
		return cmp.Or(
			cmp.Compare(slices.Index(c.Ops, x.Op), slices.Index(c.Ops, y.Op)), cmp.Compare(x.A, y.A), cmp.Compare(x.B, y.B),
			cmp.Compare(slices.Index(c.Imms, x.Imm), slices.Index(c.Imms, y.Imm)),
		)
	})
	return steps
}

// programsByHand tells all programs of n instructions in order.
func programsByHand(c choice, n int) []toldProgram {
	return lengthsByHand(c, n)[n]
}

// lengthsByHand tells for each length up to most all programs in order.
func lengthsByHand(c choice, most int) [][]toldProgram {
	words := stepper{}
	lengths := [][]toldProgram{{{columns: inputColumns()}}}
	for k := range most {
		steps := stepsByHand(c, k)
		var longer []toldProgram
		for _, p := range lengths[k] {
			for _, x := range steps {
				longer = append(longer, toldProgram{
					code:    append(copyOfCode(p.code), x),
					columns: append(slices.Clone(p.columns), words.column(x, p.columns)),
				})
			}
		}
		lengths = append(lengths, longer)
	}
	return lengths
}

// reachingByHand tells for each length up to most the programs that reach a goal, in order.
func reachingByHand(lengths [][]toldProgram, goal *column) [][]toldProgram {
	var reaching [][]toldProgram
	for _, programs := range lengths {
		var list []toldProgram
		for _, p := range programs {
			if *p.result() == *goal {
				list = append(list, p)
			}
		}
		reaching = append(reaching, list)
	}
	return reaching
}

// shortestByHand tells all of the shortest programs that reach a goal.
func shortestByHand(reaching [][]toldProgram) []toldProgram {
	for _, list := range reaching {
		if len(list) > 0 {
			return list
		}
	}
	return nil
}

// cheapestByHand tells the one that comes first by its cost, then by its length, then by its place.
func cheapestByHand(reaching [][]toldProgram) []instr {
	all := slices.Concat(reaching...)
	if len(all) == 0 {
		return nil
	}
	return slices.MinFunc(all, func(p, q toldProgram) int { return cmp.Compare(p.cost(), q.cost()) }).code
}

// unprunedByHand tells the first one of the shortest programs that are not pruned.
func unprunedByHand(reaching [][]toldProgram) ([]instr, bool) {
	for _, p := range slices.Concat(reaching...) {
		if !p.isPruned() {
			return p.code, true
		}
	}
	return nil, false
}

// exprOfProgram tells the result of a program as an expression, and fails if it has too many nodes.
func exprOfProgram(t *testing.T, code []instr) ([]node, bool) {
	t.Helper()
	texts := []string{"x0", "x1"}
	for _, x := range code {
		texts = append(texts, stepText(x, texts))
	}
	text := texts[len(texts)-1]
	if len(code) == 0 {
		text = "x0"
	}
	if len(text) > 400 || nodesIn(text) > 24 {
		return nil, false
	}
	return parsed(t, text), true
}

// stepText tells what an instruction writes by the texts of what is in the registers.
func stepText(x instr, texts []string) string {
	imm := constantText(x.Imm)
	switch x.Op {
	case "set":
		return imm
	case "mov":
		return texts[x.A]
	case "not", "neg":
		return x.Op + "(" + texts[x.A] + ")"
	case "addi", "andi", "xori", "shli", "shri":
		return x.Op[:len(x.Op)-1] + "(" + texts[x.A] + "," + imm + ")"
	case "lea":
		return "add(" + texts[x.A] + ",shl(" + texts[x.B] + "," + imm + "))"
	}
	return x.Op + "(" + texts[x.A] + "," + texts[x.B] + ")"
}

func constantText(word int) string { return nodeText([]node{constant(word)}, 0) }

// choice returns a choice with any ops and Imms.
func (d *dice) choice(mostOps int) choice {
	var c choice
	rows := opRows()
	for range 1 + d.below(mostOps) {
		if op := rows[d.below(len(rows))].op; !slices.Contains(c.Ops, op) {
			c.Ops = append(c.Ops, op)
		}
	}
	for range d.below(3) {
		imm := d.immFor(c.Ops)
		if !slices.Contains(c.Imms, imm) {
			c.Imms = append(c.Imms, imm)
		}
	}
	return c
}

// immFor returns an Imm that is allowed for all ops.
func (d *dice) immFor(ops []string) int {
	least, most := 0, 63
	for _, op := range ops {
		if row := rowOf(op); row.imm {
			least, most = max(least, row.least), min(most, row.most)
		}
	}
	return least + d.below(most-least+1)
}

// program returns a program, and fails if there is none of this length.
func (d *dice) program(c choice, n int) ([]instr, bool) {
	var code []instr
	for k := range n {
		steps := stepsByHand(c, k)
		if len(steps) == 0 {
			return nil, false
		}
		code = append(code, steps[d.below(len(steps))])
	}
	return code, true
}

// invalidChoices returns choices each of which breaks one rule.
func invalidChoices() []choice {
	list := []choice{
		{}, {Ops: []string{}, Imms: []int{1}}, {Imms: []int{1}},
		choiceOf("add sub xor and or"), choiceOf("add sub xor and add"), choiceOf("add add"), choiceOf("set add set", 1),
		choiceOf("add sub add xor"), choiceOf("add", 1, 2, 3), choiceOf("add", 1, 1), choiceOf("addi", 7, 7), choiceOf("set", 1, 2, 1),
		choiceOf("in"), choiceOf("const"), choiceOf("ADD"), choiceOf("addi subi", 1), choiceOf("add nop"), choiceOf("nop add"),
		{Ops: []string{""}}, {Ops: []string{"add", ""}}, {Ops: []string{"add "}}, {Ops: []string{" add"}}, {Ops: []string{"add sub"}}, {Ops: []string{"\xff"}},
		choiceOf("shli", 0), choiceOf("shli", 6), choiceOf("shri", 0), choiceOf("shri", 63), choiceOf("lea", 0), choiceOf("lea", 4),
		choiceOf("shli lea", 4), choiceOf("lea shli", 4), choiceOf("shli set", 0), choiceOf("set shli", 6), choiceOf("addi lea", 2, 4),
		choiceOf("add addi shri xori", 5, 6), choiceOf("mov lea", 3, 5), choiceOf("shli", 1, 0), choiceOf("lea", 0, 1),
		{Ops: make([]string, 1000)}, {Ops: []string{"add"}, Imms: make([]int, 1000)}, {Ops: make([]string, 4), Imms: make([]int, 2)},
	}
	for _, op := range []string{"add", "set", "addi", "andi", "xori", "shli", "lea", "mov"} {
		for _, bad := range []int{-1, 64, math.MinInt, math.MaxInt} {
			list = append(list, choiceOf(op, bad), choiceOf(op, 1, bad), choiceOf(op, bad, 1))
		}
	}
	return list
}

// noPrograms returns code that is no program of a choice, most of it by a change of a program.
func (d *dice) noPrograms(c choice, code []instr) [][]instr {
	lists := [][]instr{counting(1), counting(41), make([]instr, 3), make([]instr, 100), append(copyOfCode(code), instr{})}
	for k, x := range code {
		for _, r := range append([]int{3, 4, 5, 6}, extremes...) {
			for _, y := range []instr{
				{Op: x.Op, Dst: r, A: x.A, B: x.B, Imm: x.Imm}, {Op: x.Op, Dst: x.Dst, A: r, B: x.B, Imm: x.Imm},
				{Op: x.Op, Dst: x.Dst, A: x.A, B: r, Imm: x.Imm}, {Op: x.Op, Dst: x.Dst, A: x.A, B: x.B, Imm: r},
			} {
				other := copyOfCode(code)
				other[k] = y
				lists = append(lists, other)
			}
		}
		other := copyOfCode(code)
		other[k].Op = []string{"", "ADD", "in", "nop", "add", "mov", "set"}[d.below(7)]
		lists = append(lists, other, code[k+1:], slices.Insert(copyOfCode(code), k, x))
	}
	return slices.DeleteFunc(lists, func(list []instr) bool { return isProgramByHand(c, list) })
}

func isProgramByHand(c choice, code []instr) bool {
	for k, x := range code {
		if k > 2 || !isStep(c, k, x) {
			return false
		}
	}
	return true
}
