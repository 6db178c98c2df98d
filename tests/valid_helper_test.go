package tests

import (
	"slices"
	"strconv"
	"strings"
	"testing"

	"loop.example/g01127/impl"
)

// inOrder has the ops of nodes in the order in which the document compares them.
var inOrder = []string{"not", "neg", "add", "sub", "mul", "and", "or", "xor", "shl", "shr", "less", "eq"}

// exchanged has the ops whose operands are put in order.
var exchanged = []string{"add", "mul", "and", "or", "xor", "eq"}

// mostText is the length of texts beyond which nothing is told by hand, as that would take too long.
const mostText = 3000

// partsOf tells the op of a text and the texts of its operands; a leaf is told as its op.
func partsOf(text string) (string, []string) {
	op, rest, found := strings.Cut(text, "(")
	if !found {
		return text, nil
	}
	rest = strings.TrimSuffix(rest, ")")
	depth := 0
	for i := range rest {
		switch rest[i] {
		case '(':
			depth++
		case ')':
			depth--
		case ',':
			if depth == 0 {
				return op, []string{rest[:i], rest[i+1:]}
			}
		}
	}
	return op, []string{rest}
}

// joined makes a text of an op and the texts of its operands.
func joined(op string, parts []string) string {
	if len(parts) == 0 {
		return op
	}
	return op + "(" + strings.Join(parts, ",") + ")"
}

// changedText makes a text anew from its leaves on.
func changedText(text string, change func(op string, parts []string) string) string {
	op, parts := partsOf(text)
	for i, part := range parts {
		parts[i] = changedText(part, change)
	}
	return change(op, parts)
}

// differentTexts tells the texts to which the walk comes, each one when it first does.
func differentTexts(text string) []string {
	var texts []string
	changedText(text, func(op string, parts []string) string {
		whole := joined(op, parts)
		if !slices.Contains(texts, whole) {
			texts = append(texts, whole)
		}
		return whole
	})
	return texts
}

// sharedByHand tells the nodes of a text after ShareExpr, however many there are.
func sharedByHand(text string) []node {
	texts := differentTexts(text)
	var e []node
	for _, each := range texts {
		op, parts := partsOf(each)
		switch {
		case len(parts) == 2:
			e = append(e, two(op, slices.Index(texts, parts[0]), slices.Index(texts, parts[1])))
		case len(parts) == 1:
			e = append(e, one(op, slices.Index(texts, parts[0])))
		case op[0] == 'x':
			e = append(e, in(wordOf(op[1:])))
		default:
			e = append(e, constant(wordOf(op)))
		}
	}
	return e
}

// wordOf tells the number that a text is.
func wordOf(text string) int {
	n, err := strconv.Atoi(text)
	if err != nil {
		panic(err)
	}
	return n
}

// foldedText tells a text with each op of constants made a constant.
func foldedText(text string) string {
	return changedText(text, func(op string, parts []string) string {
		words := []int{0, 0}
		for i, part := range parts {
			n, err := strconv.Atoi(part)
			if err != nil {
				return joined(op, parts)
			}
			words[i] = n
		}
		if len(parts) == 0 {
			return op
		}
		return strconv.Itoa(opValue(op, words[0], words[1]))
	})
}

// orderKey tells a key of a text such that texts are in order if their keys are, as strings: that of its root, and then those of its operands.
func orderKey(text string) string {
	op, parts := partsOf(text)
	switch {
	case len(parts) > 0:
		key := string([]byte{'c', byte('a' + slices.Index(inOrder, op))})
		for _, part := range parts {
			key += orderKey(part)
		}
		return key
	case op[0] == 'x':
		return "a" + op[1:]
	}
	return "b" + string([]byte{byte('0' + wordOf(op))})
}

// orderedText tells a text with the operands in order.
func orderedText(text string) string {
	return changedText(text, func(op string, parts []string) string {
		if slices.Contains(exchanged, op) && orderKey(parts[1]) < orderKey(parts[0]) {
			slices.Reverse(parts)
		}
		return joined(op, parts)
	})
}

// symbolTexts tells the texts of what a block leaves in the registers, and fails if they become too long.
func symbolTexts(code []instr) ([]string, bool) {
	texts := []string{"x0", "x1", "0", "0", "0", "0"}
	for _, x := range code {
		texts[x.Dst] = stepText(x, texts)
		if len(texts[x.Dst]) > mostText {
			return nil, false
		}
	}
	return texts, true
}

// plainByHand tells the plain symbol with a text, and fails if the symbol has too many nodes.
func plainByHand(text string) ([]node, bool) {
	if len(differentTexts(text)) > 24 {
		return nil, false
	}
	return sharedByHand(orderedText(foldedText(text))), true
}

// areAlikeByHand tells of the texts of two blocks whether these are alike, and whether all symbols are there.
func areAlikeByHand(texts []string, others []string, out []int) (bool, bool) {
	alike, told := true, true
	for _, r := range out {
		e, ok := plainByHand(texts[r])
		f, fine := plainByHand(others[r])
		told = told && ok && fine
		alike = alike && sameList(e, f)
	}
	return alike && told, told
}

// blockColumns tells what a block leaves in each register, for all inputs.
func (s stepper) blockColumns(code []instr) []*column {
	columns := inputColumns()
	for range 4 {
		columns = append(columns, new(column))
	}
	for _, x := range code {
		columns[x.Dst] = s.column(x, columns)
	}
	return columns
}

// blockWitnessByHand tells the first inputs and the least register in which columns differ, nil if there are none.
func blockWitnessByHand(a []*column, b []*column, out []int) []int {
	for i := range 4096 {
		for _, r := range out {
			if a[r][i] != b[r][i] {
				return []int{i / 64, i % 64, r}
			}
		}
	}
	return nil
}

// allOut has all registers.
var allOut = []int{0, 1, 2, 3, 4, 5}

// wide returns n instructions that add n different words, so that the register 2 needs two nodes for each of them, and one more.
func wide(n int) []instr {
	var code []instr
	for i := range n {
		code = append(code, instr{Op: "addi", Dst: 2, A: 2, Imm: i + 1})
	}
	return code
}

// marking returns code that makes the register 2 1 for these inputs, and 0 for all others. It leaves 0 in the register 4.
func marking(x0 int, x1 int) []instr {
	return []instr{
		{Op: "xori", Dst: 2, A: 0, Imm: x0}, {Op: "xori", Dst: 3, A: 1, Imm: x1}, {Op: "or", Dst: 2, A: 2, B: 3}, {Op: "eq", Dst: 2, A: 2, B: 4},
	}
}

// chained returns n instructions each of which changes the register 2.
func (d *dice) chained(n int) []instr {
	var code []instr
	for len(code) < n {
		x := d.instr()
		row := rowOf(x.Op)
		if row.a && x.Op != "mov" {
			code = append(code, row.with(2, 2, d.below(2), x.Imm))
		}
	}
	return code
}

// setting returns n instructions that set a register to different words, so that all of them have to keep their order.
func setting(r int, n int) []instr {
	var code []instr
	for i := range n {
		code = append(code, instr{Op: "set", Dst: r, Imm: i})
	}
	return code
}

// areApartByHand tells by the document's own words whether two instructions are independent.
func areApartByHand(x instr, y instr) bool {
	return x.Dst != y.Dst && !isReading(x, y.Dst) && !isReading(y, x.Dst)
}

// pathByHand tells the swaps that lead from a to b, and fails if there are none.
func pathByHand(a []instr, b []instr) ([]int, bool) {
	if len(a) != len(b) {
		return nil, false
	}
	code := copyOfCode(a)
	var path []int
	for k := range b {
		i := k
		for i < len(code) && code[i] != b[k] {
			i++
		}
		if i == len(code) {
			return nil, false
		}
		for ; i > k; i-- {
			if !areApartByHand(code[i-1], code[i]) {
				return nil, false
			}
			code[i-1], code[i] = code[i], code[i-1]
			path = append(path, i-1)
		}
	}
	return path, len(path) <= 100
}

// mixed returns code that swaps of independent neighbours have changed, n of them tried.
func (d *dice) mixed(code []instr, n int) []instr {
	mixed := copyOfCode(code)
	for range n {
		if len(code) < 2 {
			break
		}
		i := d.below(len(code) - 1)
		if areApartByHand(mixed[i], mixed[i+1]) {
			mixed[i], mixed[i+1] = mixed[i+1], mixed[i]
		}
	}
	return mixed
}

// turned returns code with the operands of some instructions exchanged for which it does not matter.
func (d *dice) turned(code []instr) []instr {
	turned := copyOfCode(code)
	for i, x := range code {
		if slices.Contains(exchanged, x.Op) && d.below(2) == 0 {
			turned[i].A, turned[i].B = x.B, x.A
		}
	}
	return turned
}

// retold returns code with some instructions put in other words: it leaves the same, but for some of them by other symbols.
func (d *dice) retold(code []instr) []instr {
	retold := copyOfCode(code)
	for i, x := range code {
		switch {
		case x.Op == "shli" && x.Imm == 1:
			retold[i] = instr{Op: "add", Dst: x.Dst, A: x.A, B: x.A}
		case x.Op == "add" && x.A == x.B:
			retold[i] = instr{Op: "shli", Dst: x.Dst, A: x.A, Imm: 1}
		case x.Op == "not":
			retold[i] = instr{Op: "xori", Dst: x.Dst, A: x.A, Imm: 63}
		case x.Op == "mov":
			retold[i] = instr{Op: "addi", Dst: x.Dst, A: x.A}
		case x.Op == "set" && x.Imm == 0:
			retold[i] = instr{Op: "sub", Dst: x.Dst}
		}
	}
	return retold
}

// variant returns a block that is alike, the same or another one than code.
func (d *dice) variant(code []instr) []instr {
	other := d.turned(d.mixed(code, 2*len(code)))
	if d.below(2) == 0 {
		other = d.retold(other)
	}
	if d.below(3) == 0 && len(other) > 0 {
		other[d.below(len(other))] = d.instr()
	}
	if d.below(4) == 0 && len(other) < 20 {
		r := d.below(6)
		other = slices.Insert(other, d.below(len(other)+1), instr{Op: "mov", Dst: r, A: r})
	}
	return other
}

// invalidTests returns lists that are not of two inputs.
func invalidTests() [][]int {
	list := [][]int{nil, {}, {0}, {63}, {0, 0, 0}, make([]int, 100)}
	for _, bad := range extremes {
		if bad < 0 || bad > 63 {
			list = append(list, []int{bad, 0}, []int{0, bad}, []int{bad, bad}, []int{0, 0, bad})
		}
	}
	return list
}

// noBlocks returns lists of instructions that are no blocks.
func noBlocks() [][]instr {
	return append(invalidCodes(), counting(21), counting(40), append(counting(20), instr{}))
}

// checkVerdict wants a verdict for two blocks in both orders, and the first inputs and the least register in which they differ, nil if they do not.
func checkVerdict(t *testing.T, a []instr, b []instr, out []int, want string, witness []int) {
	t.Helper()
	for range 2 {
		verdict, ok := impl.VerdictOf(a, b, out)
		if !ok || verdict != want {
			t.Error("verdict", codeLines(a), "|", codeLines(b), out, verdict, ok, want)
		}
		same, ok := impl.AreSameBlocks(a, b, out)
		if !ok || same != (witness == nil) {
			t.Error("same", codeLines(a), "|", codeLines(b), out, same, ok, witness)
		}
		list, ok := impl.BlockWitness(a, b, out)
		if ok != (witness != nil) || !sameNumbers(list, witness) {
			t.Error("witness", codeLines(a), "|", codeLines(b), out, list, ok, witness)
		}
		a, b = b, a
	}
}

// checkAlike wants AreAlike to tell this for two blocks in both orders.
func checkAlike(t *testing.T, a []instr, b []instr, out []int, want bool, told bool) {
	t.Helper()
	for range 2 {
		alike, ok := impl.AreAlike(a, b, out)
		if alike != want || ok != told {
			t.Error("alike", codeLines(a), "|", codeLines(b), out, alike, ok, want, told)
		}
		a, b = b, a
	}
}
