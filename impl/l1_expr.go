package impl

import (
	"slices"
	"strconv"
	"strings"
)

const Width = 6
const Top = 63
const MaxNodes = 24

const wordCount = Top + 1

const maxExprText = 400

type Node struct {
	Op    string
	A     int
	B     int
	Value int
}

// IsExpr reports whether e is an expression.
func IsExpr(e []Node) bool {
	if len(e) < 1 || len(e) > MaxNodes {
		return false
	}
	for i, n := range e {
		if !isNodeAt(n, i) {
			return false
		}
	}
	return !slices.Contains(usesOf(e)[:len(e)-1], 0)
}

// EvalExpr returns the value of e for two inputs.
func EvalExpr(e []Node, x0 int, x1 int) (int, bool) {
	values, ok := ValuesOf(e, x0, x1)
	if !ok {
		return 0, false
	}
	return values[len(e)-1], true
}

// ValuesOf returns the values of all nodes, in order.
func ValuesOf(e []Node, x0 int, x1 int) ([]int, bool) {
	if !IsExpr(e) || !isWord(x0) || !isWord(x1) {
		return nil, false
	}
	values := make([]int, len(e))
	fillValues(values, e, 0, x0, x1)
	return values, true
}

// TableOf returns the values for all inputs: that for x0 and x1 at the index 64 x0 + x1.
func TableOf(e []Node) ([]int, bool) {
	if !IsExpr(e) {
		return nil, false
	}
	table := make([]int, 0, wordCount*wordCount)
	values := make([]int, len(e))
	for x0 := range wordCount {
		for x1 := range wordCount {
			fillValues(values, e, 0, x0, x1)
			table = append(table, values[len(e)-1])
		}
	}
	return table, true
}

// ApplyOp returns the value of a node with the Op op and operands with the values a and b; for not and neg b is 0. It fails for other words and for other ops.
func ApplyOp(op string, a int, b int) (int, bool) {
	count := operandCount(op)
	if count < 1 || count == 1 && b != 0 || !isWord(a) || !isWord(b) {
		return 0, false
	}
	return valueOfOp(op, a, b), true
}

// InputsOf returns the inputs that occur, strictly increasing.
func InputsOf(e []Node) ([]int, bool) {
	if !IsExpr(e) {
		return nil, false
	}
	var inputs []int
	for k := range 2 {
		if hasInput(e, k) {
			inputs = append(inputs, k)
		}
	}
	return inputs, true
}

// CountOps returns how many nodes are no leaves.
func CountOps(e []Node) (int, bool) {
	if !IsExpr(e) {
		return 0, false
	}
	count := 0
	for _, n := range e {
		if operandCount(n.Op) > 0 {
			count++
		}
	}
	return count, true
}

// DepthOf returns the greatest number of operands, one of the other, on a way from the root to a leaf.
func DepthOf(e []Node) (int, bool) {
	if !IsExpr(e) {
		return 0, false
	}
	depths := make([]int, len(e))
	for i, n := range e {
		for _, p := range operandsOf(n) {
			depths[i] = max(depths[i], depths[p]+1)
		}
	}
	return depths[len(e)-1], true
}

// UsesOf returns for each node, in order, how often it is an operand.
func UsesOf(e []Node) ([]int, bool) {
	if !IsExpr(e) {
		return nil, false
	}
	return usesOf(e), true
}

// IsTree reports whether e is a tree.
func IsTree(e []Node) (bool, bool) {
	if !IsExpr(e) {
		return false, false
	}
	for _, uses := range usesOf(e) {
		if uses > 1 {
			return false, true
		}
	}
	return true, true
}

// SubExpr returns the expression whose root is the node i: the nodes that it needs, in their order.
func SubExpr(e []Node, i int) ([]Node, bool) {
	if !IsExpr(e) || i < 0 || i >= len(e) {
		return nil, false
	}
	return subExpr(e, i), true
}

// ExpandExpr returns the tree with a node for each time that the walk of the root comes to one, in this order. It fails if there are more than MaxNodes.
func ExpandExpr(e []Node) ([]Node, bool) {
	if !IsExpr(e) {
		return nil, false
	}
	w := expandWalk{e: e}
	w.walk(len(e) - 1)
	return w.built()
}

// ShareExpr returns the expression in which nodes with the same Op, Value and, after this, the same operands are one, in the order in which the walk of the root first comes to them.
func ShareExpr(e []Node) ([]Node, bool) {
	if !IsExpr(e) {
		return nil, false
	}
	return shareExpr(e, len(e)-1)
}

// FoldExpr returns the expression in which each node all of whose operands are constants, also when they have been made so, is a constant, and nodes that are needed no more are left out; the others keep their order.
func FoldExpr(e []Node) ([]Node, bool) {
	if !IsExpr(e) {
		return nil, false
	}
	folded := make([]Node, len(e))
	for i, n := range e {
		folded[i] = foldNode(n, folded)
	}
	return subExpr(folded, len(e)-1), true
}

// PutInput returns the expression in which f stands in place of the input k, 0 or 1: the nodes of f, and then those of e but the leaves of this input. If e has no such leaf, it is e. It fails if there are more than MaxNodes.
func PutInput(e []Node, k int, f []Node) ([]Node, bool) {
	if !IsExpr(e) || !IsExpr(f) || k < 0 || k > 1 {
		return nil, false
	}
	if !hasInput(e, k) {
		return slices.Clone(e), true
	}
	w := moveWalk{places: make([]int, len(e))}
	w.nodes = slices.Clone(f)
	for i, n := range e {
		if isInput(n, k) {
			w.places[i] = len(f) - 1
		} else {
			w.move(i, n)
		}
	}
	return w.built()
}

// ExprText returns, for a tree, x0 or x1 for an input, a constant in decimal, and for other nodes the Op, a (, the texts of the operands with a , between them, and a ). It fails if e is no tree.
func ExprText(e []Node) (string, bool) {
	if tree, _ := IsTree(e); !tree {
		return "", false
	}
	w := textWalk{e: e}
	w.walk(len(e) - 1)
	return w.String(), true
}

// ParseExpr returns the tree with an ExprText, in the order of the walk of its root. It fails if there is none, or if s has more than 400 bytes.
func ParseExpr(s string) ([]Node, bool) {
	if len(s) > maxExprText {
		return nil, false
	}
	w := readWalk{rest: s}
	w.walk()
	if w.rest != "" {
		return nil, false
	}
	return w.built()
}

func isWord(n int) bool { return n >= 0 && n <= Top }

// wrap returns the remainder by 64 in 0..Top, also of a number less than 0, for which % would not.
func wrap(n int) int { return n & Top }

func wordOf(holds bool) int {
	if holds {
		return 1
	}
	return 0
}

// operandCount returns how many operands a node with an op has, and -1 for other texts.
func operandCount(op string) int {
	switch op {
	case "in", "const":
		return 0
	case "not", "neg":
		return 1
	case "add", "sub", "mul", "and", "or", "xor", "shl", "shr", "less", "eq":
		return 2
	}
	return -1
}

func operandsOf(n Node) []int {
	switch operandCount(n.Op) {
	case 1:
		return []int{n.A}
	case 2:
		return []int{n.A, n.B}
	}
	return nil
}

func isInput(n Node, k int) bool { return n.Op == "in" && n.Value == k }

func hasInput(e []Node, k int) bool {
	return slices.ContainsFunc(e, func(n Node) bool { return isInput(n, k) })
}

// isNodeAt reports whether n may be the node i of an expression, whatever comes behind it.
func isNodeAt(n Node, i int) bool {
	switch operandCount(n.Op) {
	case 0:
		return n.A == 0 && n.B == 0 && isLeafValue(n)
	case 1:
		return isIndex(n.A, i) && n.B == 0 && n.Value == 0
	case 2:
		return isIndex(n.A, i) && isIndex(n.B, i) && n.Value == 0
	}
	return false
}

func isLeafValue(n Node) bool {
	if n.Op == "in" {
		return n.Value == 0 || n.Value == 1
	}
	return isWord(n.Value)
}

func isIndex(i int, length int) bool { return i >= 0 && i < length }

func usesOf(e []Node) []int {
	uses := make([]int, len(e))
	for _, n := range e {
		for _, p := range operandsOf(n) {
			uses[p]++
		}
	}
	return uses
}

// fillValues keeps the values of the nodes from first on in values, where those before stand already, so that one list serves for many inputs.
func fillValues(values []int, e []Node, first int, x0 int, x1 int) {
	for i := first; i < len(e); i++ {
		n := e[i]
		switch {
		case n.Op == "const":
			values[i] = n.Value
		case isInput(n, 0):
			values[i] = x0
		case isInput(n, 1):
			values[i] = x1
		default:
			values[i] = valueOfOp(n.Op, values[n.A], values[n.B])
		}
	}
}

// valueOfOp returns the value of an op with operands for words; an op with one operand does not look at b.
// A shift by more than 5 needs no case of its own: it leaves no bit below 64.
func valueOfOp(op string, a int, b int) int {
	switch op {
	case "not":
		return Top - a
	case "neg":
		return wrap(-a)
	case "add":
		return wrap(a + b)
	case "sub":
		return wrap(a - b)
	case "mul":
		return wrap(a * b)
	case "and":
		return a & b
	case "or":
		return a | b
	case "xor":
		return a ^ b
	case "shl":
		return wrap(a << b)
	case "shr":
		return a >> b
	case "less":
		return wordOf(a < b)
	}
	return wordOf(a == b)
}

// foldNode returns n, or a constant in its place, where the nodes before have been folded.
func foldNode(n Node, folded []Node) Node {
	operands := operandsOf(n)
	for _, p := range operands {
		if folded[p].Op != "const" {
			return n
		}
	}
	if len(operands) == 0 {
		return n
	}
	return Node{Op: "const", Value: valueOfOp(n.Op, folded[n.A].Value, folded[n.B].Value)}
}

// subExpr returns what the node root needs of nodes that need not all be operands.
func subExpr(e []Node, root int) []Node {
	needed := make([]bool, root+1)
	needed[root] = true
	for i := root; i >= 0; i-- {
		if needed[i] {
			for _, p := range operandsOf(e[i]) {
				needed[p] = true
			}
		}
	}
	w := moveWalk{places: make([]int, root+1)}
	for i, n := range e[:root+1] {
		if needed[i] {
			w.move(i, n)
		}
	}
	return w.nodes
}

// shareExpr shares what the node root needs of nodes that may be more than MaxNodes. It fails if they still are when they are shared.
func shareExpr(e []Node, root int) ([]Node, bool) {
	w := shareWalk{e: e, places: make([]int, len(e)), seen: make([]bool, len(e))}
	w.walk(root)
	return w.built()
}

// builder holds the nodes of an expression as it is made by a walk that embeds it.
type builder struct {
	nodes  []Node
	failed bool
}

// put fails instead of growing beyond MaxNodes, so that no walk of shared nodes goes on for long.
func (b *builder) put(n Node) int {
	if len(b.nodes) >= MaxNodes {
		b.failed = true
	}
	if b.failed {
		return 0
	}
	b.nodes = append(b.nodes, n)
	return len(b.nodes) - 1
}

// putOnce puts n unless an equal node is there.
func (b *builder) putOnce(n Node) int {
	if i := slices.Index(b.nodes, n); i >= 0 {
		return i
	}
	return b.put(n)
}

func (b *builder) built() ([]Node, bool) {
	if b.failed {
		return nil, false
	}
	return b.nodes, true
}

// withOperands returns n with its operands at the indices that place tells. It asks for A before B, as a walk does.
func withOperands(n Node, place func(int) int) Node {
	count := operandCount(n.Op)
	if count > 0 {
		n.A = place(n.A)
	}
	if count > 1 {
		n.B = place(n.B)
	}
	return n
}

// moveWalk goes through nodes in their order; places tells where it has put them.
type moveWalk struct {
	builder
	places []int
}

func (w *moveWalk) move(i int, n Node) {
	w.places[i] = w.put(withOperands(n, w.placeOf))
}

func (w *moveWalk) placeOf(i int) int { return w.places[i] }

// expandWalk makes a node each time that it comes to one.
type expandWalk struct {
	builder
	e []Node
}

func (w *expandWalk) walk(i int) int {
	if w.failed {
		return 0
	}
	return w.put(withOperands(w.e[i], w.walk))
}

// shareWalk makes a node for the first one of equal nodes that it comes to.
type shareWalk struct {
	builder
	e      []Node
	places []int
	seen   []bool
}

// walk does not walk a node again, as it would find nothing new there and might take very long.
func (w *shareWalk) walk(i int) int {
	if !w.seen[i] {
		w.places[i] = w.putOnce(withOperands(w.e[i], w.walk))
		w.seen[i] = true
	}
	return w.places[i]
}

// textWalk writes the text of a tree.
type textWalk struct {
	strings.Builder
	e []Node
}

func (w *textWalk) walk(i int) {
	n := w.e[i]
	operands := operandsOf(n)
	if len(operands) == 0 {
		w.WriteString(leafText(n))
		return
	}
	w.WriteString(n.Op)
	for k, p := range operands {
		w.WriteByte("(,"[k])
		w.walk(p)
	}
	w.WriteByte(')')
}

func leafText(n Node) string {
	if n.Op == "in" {
		return "x" + strconv.Itoa(n.Value)
	}
	return strconv.Itoa(n.Value)
}

// readWalk makes the nodes of a text in the order in which their texts end, which is that of the walk.
type readWalk struct {
	builder
	rest string
}

func (w *readWalk) walk() int {
	name := w.name()
	if leaf, ok := leafOf(name); ok {
		return w.put(leaf)
	}
	n := Node{Op: name}
	switch operandCount(name) {
	case 1:
		w.skip("(")
		n.A = w.walk()
	case 2:
		w.skip("(")
		n.A = w.walk()
		w.skip(",")
		n.B = w.walk()
	default:
		w.failed = true
		return 0
	}
	w.skip(")")
	return w.put(n)
}

// name takes what stands before the next sign.
func (w *readWalk) name() string {
	end := strings.IndexAny(w.rest, "(,)")
	if end < 0 {
		end = len(w.rest)
	}
	name := w.rest[:end]
	w.rest = w.rest[end:]
	return name
}

func (w *readWalk) skip(sign string) {
	rest, ok := strings.CutPrefix(w.rest, sign)
	w.rest = rest
	w.failed = w.failed || !ok
}

func leafOf(name string) (Node, bool) {
	switch name {
	case "x0":
		return Node{Op: "in", Value: 0}, true
	case "x1":
		return Node{Op: "in", Value: 1}, true
	}
	value, ok := readNumber(name, Top)
	return Node{Op: "const", Value: value}, ok
}

// readNumber reads a number in 0..most, in decimal without superfluous zeros.
func readNumber(s string, most int) (int, bool) {
	n, err := strconv.Atoi(s)
	if err != nil || n < 0 || n > most || strconv.Itoa(n) != s {
		return 0, false
	}
	return n, true
}
