package tests

import (
	"math"
	"slices"
	"strconv"
	"strings"
	"testing"

	"loop.example/g01127/impl"
)

type instr = impl.Instr

// opRow is a row of the document's table of ops: what an op uses beside Dst, the ends of the range of Imm, and the cost.
type opRow struct {
	op          string
	a, b        bool
	imm         bool
	least, most int
	cost        int
}

func opRows() []opRow {
	rows := []opRow{
		{op: "set", imm: true, least: 0, most: 63, cost: 1},
		{op: "mov", a: true, cost: 1},
		{op: "not", a: true, cost: 1},
		{op: "neg", a: true, cost: 1},
		{op: "shl", a: true, b: true, cost: 2},
		{op: "shr", a: true, b: true, cost: 2},
		{op: "mul", a: true, b: true, cost: 4},
		{op: "addi", a: true, imm: true, least: 0, most: 63, cost: 1},
		{op: "andi", a: true, imm: true, least: 0, most: 63, cost: 1},
		{op: "xori", a: true, imm: true, least: 0, most: 63, cost: 1},
		{op: "shli", a: true, imm: true, least: 1, most: 5, cost: 1},
		{op: "shri", a: true, imm: true, least: 1, most: 5, cost: 1},
		{op: "lea", a: true, b: true, imm: true, least: 1, most: 3, cost: 1},
	}
	for _, op := range []string{"add", "sub", "and", "or", "xor", "less", "eq"} {
		rows = append(rows, opRow{op: op, a: true, b: true, cost: 1})
	}
	return rows
}

func rowOf(op string) opRow {
	for _, row := range opRows() {
		if row.op == op {
			return row
		}
	}
	panic("no op: " + op)
}

// with returns the instruction of a row with these numbers where it uses them.
func (row opRow) with(dst int, a int, b int, imm int) instr {
	x := instr{Op: row.op, Dst: dst}
	if row.a {
		x.A = a
	}
	if row.b {
		x.B = b
	}
	if row.imm {
		x.Imm = imm
	}
	return x
}

func copyOfCode(code []instr) []instr { return append([]instr{}, code...) }

func sameCode(a []instr, b []instr) bool { return slices.Equal(a, b) }

func sameLists(a [][]int, b [][]int) bool { return slices.EqualFunc(a, b, sameNumbers) }

// codeOf returns the code of texts that are known to be those of instructions.
func codeOf(t *testing.T, lines ...string) []instr {
	t.Helper()
	var code []instr
	for _, line := range lines {
		x, ok := impl.ParseInstr(line)
		if !ok {
			t.Fatalf("ParseInstr(%q) fails", line)
		}
		code = append(code, x)
	}
	return code
}

// counting returns n instructions that add 1 to the register 2.
func counting(n int) []instr {
	var code []instr
	for range n {
		code = append(code, instr{Op: "addi", Dst: 2, A: 2, Imm: 1})
	}
	return code
}

func (d *dice) instr() instr {
	rows := opRows()
	row := rows[d.below(len(rows))]
	return row.with(d.below(6), d.below(6), d.below(6), row.least+d.below(row.most-row.least+1))
}

func (d *dice) code(n int) []instr {
	var code []instr
	for range n {
		code = append(code, d.instr())
	}
	return code
}

func (d *dice) words() []int {
	var words []int
	for range 6 {
		words = append(words, d.below(64))
	}
	return words
}

// registers returns some registers, strictly increasing.
func (d *dice) registers() []int {
	var list []int
	for r := range 6 {
		if d.below(3) == 0 {
			list = append(list, r)
		}
	}
	return list
}

func (d *dice) names() []int {
	names := []int{0, 1, 2, 3, 4, 5}
	for i := range names {
		j := i + d.below(6-i)
		names[i], names[j] = names[j], names[i]
	}
	return names
}

// stepByHand tells the words behind an instruction by the values of ops that opValue tells.
func stepByHand(x instr, regs []int) []int {
	after := slices.Clone(regs)
	a, b := regs[x.A], regs[x.B]
	switch x.Op {
	case "set":
		after[x.Dst] = x.Imm
	case "mov":
		after[x.Dst] = a
	case "addi":
		after[x.Dst] = opValue("add", a, x.Imm)
	case "andi":
		after[x.Dst] = opValue("and", a, x.Imm)
	case "xori":
		after[x.Dst] = opValue("xor", a, x.Imm)
	case "shli":
		after[x.Dst] = opValue("shl", a, x.Imm)
	case "shri":
		after[x.Dst] = opValue("shr", a, x.Imm)
	case "lea":
		after[x.Dst] = remainder(a + b*[]int{1, 2, 4, 8}[x.Imm])
	default:
		after[x.Dst] = opValue(x.Op, a, b)
	}
	return after
}

func runByHand(code []instr, regs []int) []int {
	for _, x := range code {
		regs = stepByHand(x, regs)
	}
	return slices.Clone(regs)
}

func isReading(x instr, r int) bool {
	row := rowOf(x.Op)
	return row.a && x.A == r || row.b && x.B == r
}

// isAlive tells by the document's own words whether a register is alive before code.
func isAlive(code []instr, out []int, r int) bool {
	for _, x := range code {
		if isReading(x, r) {
			return true
		}
		if x.Dst == r {
			return false
		}
	}
	return slices.Contains(out, r)
}

func aliveByHand(code []instr, out []int) []int {
	var list []int
	for r := range 6 {
		if isAlive(code, out, r) {
			list = append(list, r)
		}
	}
	return list
}

func textByHand(x instr) string {
	row := rowOf(x.Op)
	words := []string{x.Op, "r" + strconv.Itoa(x.Dst)}
	if row.a {
		words = append(words, "r"+strconv.Itoa(x.A))
	}
	if row.b {
		words = append(words, "r"+strconv.Itoa(x.B))
	}
	if row.imm {
		words = append(words, strconv.Itoa(x.Imm))
	}
	return strings.Join(words, " ")
}

// invalidInstrs returns instructions each of which breaks one rule.
func invalidInstrs() []instr {
	list := []instr{
		{}, {Op: "ADD"}, {Op: "add "}, {Op: " add"}, {Op: "in"}, {Op: "const"}, {Op: "subi"}, {Op: "ori"}, {Op: "muli"}, {Op: "i"},
		{Op: "ad"}, {Op: "addii"}, {Op: "r0"}, {Op: "\xff"}, {Op: "add\n"}, {Op: "nop"},
	}
	for _, row := range opRows() {
		good := row.with(1, 2, 3, row.least)
		for _, bad := range []int{-1, 6, 7, 64, math.MinInt, math.MaxInt} {
			x := good
			x.Dst = bad
			y := good
			y.A = bad
			z := good
			z.B = bad
			list = append(list, x, y, z)
		}
		for _, bad := range []int{row.least - 1, row.most + 1, -1, 64, math.MinInt, math.MaxInt} {
			x := good
			x.Imm = bad
			list = append(list, x)
		}
		list = append(list, unusedSet(row, good)...)
	}
	return list
}

// unusedSet returns an instruction with a 1 in each field that its op does not use.
func unusedSet(row opRow, good instr) []instr {
	var list []instr
	if !row.a {
		x := good
		x.A = 1
		list = append(list, x)
	}
	if !row.b {
		x := good
		x.B = 1
		list = append(list, x)
	}
	if !row.imm {
		x := good
		x.Imm = 1
		list = append(list, x)
	}
	return list
}

// invalidCodes returns lists of instructions that are no code.
func invalidCodes() [][]instr {
	list := [][]instr{counting(41), counting(1000), make([]instr, 3)}
	for _, x := range invalidInstrs() {
		list = append(list, []instr{x}, append(counting(3), x), append([]instr{x}, counting(3)...))
	}
	return append(list, append(counting(39), instr{Op: "add", Dst: 6}))
}

// invalidWords returns lists that are no words for the registers.
func invalidWords() [][]int {
	list := [][]int{nil, {}, {1}, {1, 2, 3, 4, 5}, {1, 2, 3, 4, 5, 6, 7}, make([]int, 100)}
	for i := range 6 {
		for _, bad := range []int{-1, 64, math.MinInt, math.MaxInt} {
			words := []int{1, 2, 3, 4, 5, 6}
			words[i] = bad
			list = append(list, words)
		}
	}
	return list
}

// invalidRegisters returns lists that are not of registers, or not strictly increasing.
func invalidRegisters() [][]int {
	return [][]int{
		{-1}, {6}, {math.MinInt}, {math.MaxInt}, {0, 0}, {5, 5}, {1, 0}, {5, 4}, {0, 2, 1}, {0, 1, 1}, {-1, 0}, {4, 5, 6},
		{0, 1, 2, 3, 4, 5, 6}, {0, 1, 2, 3, 4, 5, 5}, {0, 1, 2, 3, 5, 4}, {0, math.MaxInt}, {math.MinInt, 0}, make([]int, 100),
	}
}

// invalidNames returns lists that do not have each register once.
func invalidNames() [][]int {
	return [][]int{
		nil, {}, {0}, {0, 1, 2, 3, 4}, {0, 1, 2, 3, 4, 4}, {0, 0, 1, 2, 3, 4}, {5, 5, 5, 5, 5, 5}, {0, 1, 2, 3, 4, 6}, {-1, 0, 1, 2, 3, 4},
		{1, 2, 3, 4, 5, 6}, {0, 1, 2, 3, 4, 5, 5}, {0, 1, 2, 3, 4, 5, 6}, {0, 1, 2, 3, 4, math.MaxInt}, {math.MinInt, 1, 2, 3, 4, 5},
		{0, 1, 2, 3, 4, 5, 0, 1, 2, 3, 4, 5}, make([]int, 100),
	}
}
