package tests

import (
	"reflect"
	"strconv"
	"testing"

	"loop.example/g01127/impl"
)

type node = impl.Node

var oneOperand = []string{"not", "neg"}
var twoOperands = []string{"add", "sub", "mul", "and", "or", "xor", "shl", "shr", "less", "eq"}

func in(k int) node                    { return node{Op: "in", Value: k} }
func constant(word int) node           { return node{Op: "const", Value: word} }
func one(op string, a int) node        { return node{Op: op, A: a} }
func two(op string, a int, b int) node { return node{Op: op, A: a, B: b} }
func copyOf(e []node) []node           { return append([]node{}, e...) }
func sameList(a []node, b []node) bool {
	return len(a) == len(b) && (len(a) == 0 || reflect.DeepEqual(a, b))
}
func sameNumbers(a []int, b []int) bool {
	return len(a) == len(b) && (len(a) == 0 || reflect.DeepEqual(a, b))
}

// parsed returns the tree with a text that is known to have one.
func parsed(t *testing.T, text string) []node {
	t.Helper()
	e, ok := impl.ParseExpr(text)
	if !ok {
		t.Fatalf("ParseExpr(%q) fails", text)
	}
	return e
}

// chain returns an expression of n nodes without a second use: n - 1 times not of x0.
func chain(n int) []node {
	e := []node{in(0)}
	for i := 1; i < n; i++ {
		e = append(e, one("not", i-1))
	}
	return e
}

// doubling returns an expression of n nodes each of which is both operands of the next one.
func doubling(n int) []node {
	e := []node{in(0)}
	for i := 1; i < n; i++ {
		e = append(e, two("add", i-1, i-1))
	}
	return e
}

// dice gives the same numbers in each run.
type dice uint64

func (d *dice) below(n int) int {
	*d = *d*6364136223846793005 + 1442695040888963407
	return int(uint64(*d)>>33) % n
}

// brokenTexts returns a text without one byte, with one of the signs more, and with one in place of a byte.
func (d *dice) brokenTexts(s string, signs string) []string {
	at := d.below(len(s))
	return []string{
		s[:at] + s[at+1:],
		s[:at] + signs[d.below(len(signs)):][:1] + s[at:],
		s[:at] + signs[d.below(len(signs)):][:1] + s[at+1:],
	}
}

// expr returns an expression of at most n nodes, with nodes that are used more than once, equal nodes and constants.
func (d *dice) expr(n int) []node {
	var e []node
	for i := 0; i < n; i++ {
		kind := d.below(8)
		switch {
		case i == 0 || kind == 0:
			e = append(e, in(d.below(2)))
		case kind <= 2:
			e = append(e, constant(d.below(4)*d.below(22)))
		case kind == 3:
			e = append(e, one(oneOperand[d.below(2)], d.below(i)))
		default:
			e = append(e, two(twoOperands[d.below(10)], d.below(i), max(0, i-1-d.below(4))))
		}
	}
	return needed(e)
}

// needed leaves out what the last node does not need, told independently of SubExpr.
func needed(e []node) []node {
	used := map[int]bool{len(e) - 1: true}
	for i := len(e) - 1; i >= 0; i-- {
		for _, p := range operands(e[i]) {
			used[p] = used[p] || used[i]
		}
	}
	places := map[int]int{}
	var kept []node
	for i, n := range e {
		if !used[i] {
			continue
		}
		places[i] = len(kept)
		switch len(operands(n)) {
		case 1:
			n.A = places[n.A]
		case 2:
			n.A, n.B = places[n.A], places[n.B]
		}
		kept = append(kept, n)
	}
	return kept
}

func operands(n node) []int {
	for _, op := range oneOperand {
		if n.Op == op {
			return []int{n.A}
		}
	}
	for _, op := range twoOperands {
		if n.Op == op {
			return []int{n.A, n.B}
		}
	}
	return nil
}

// remainder is that by 64 in 0..63.
func remainder(n int) int { return ((n % 64) + 64) % 64 }

// bitwise makes each bit of a value from the bits of a and b, which are counted by divisions.
func bitwise(a int, b int, bit func(p int, q int) bool) int {
	value := 0
	for worth := 1; worth < 64; worth *= 2 {
		if bit(a/worth%2, b/worth%2) {
			value += worth
		}
	}
	return value
}

func powerOfTwo(n int) int {
	power := 1
	for range n {
		power *= 2
	}
	return power
}

func truth(holds bool) int {
	if holds {
		return 1
	}
	return 0
}

// opValue tells the value of an op as the document does, by arithmetic alone.
func opValue(op string, a int, b int) int {
	switch op {
	case "not":
		return 63 - a
	case "neg":
		return remainder(0 - a)
	case "add":
		return remainder(a + b)
	case "sub":
		return remainder(a - b)
	case "mul":
		return remainder(a * b)
	case "and":
		return bitwise(a, b, func(p, q int) bool { return p+q == 2 })
	case "or":
		return bitwise(a, b, func(p, q int) bool { return p+q > 0 })
	case "xor":
		return bitwise(a, b, func(p, q int) bool { return p+q == 1 })
	case "shl":
		if b > 5 {
			return 0
		}
		return remainder(a * powerOfTwo(b))
	case "shr":
		if b > 5 {
			return 0
		}
		return a / powerOfTwo(b)
	case "less":
		return truth(a < b)
	case "eq":
		return truth(a == b)
	}
	panic("no op: " + op)
}

// nodeValues tells the values of all nodes.
func nodeValues(e []node, x0 int, x1 int) []int {
	var values []int
	for _, n := range e {
		switch {
		case n.Op == "const":
			values = append(values, n.Value)
		case n.Op == "in":
			values = append(values, []int{x0, x1}[n.Value])
		default:
			values = append(values, opValue(n.Op, values[n.A], values[n.B]))
		}
	}
	return values
}

// nodeText tells the text of a node of any expression, tree or not.
func nodeText(e []node, i int) string {
	n := e[i]
	switch n.Op {
	case "in":
		return "x" + strconv.Itoa(n.Value)
	case "const":
		return strconv.Itoa(n.Value)
	}
	text := n.Op + "(" + nodeText(e, n.A)
	if len(operands(n)) == 2 {
		text += "," + nodeText(e, n.B)
	}
	return text + ")"
}

// walkTexts tells the texts of the nodes in the order in which the walk of the node i comes to them, each time.
func walkTexts(e []node, i int) []string {
	var texts []string
	for _, p := range operands(e[i]) {
		texts = append(texts, walkTexts(e, p)...)
	}
	return append(texts, nodeText(e, i))
}

// listTexts tells the texts of the nodes as they are listed.
func listTexts(e []node) []string {
	var texts []string
	for i := range e {
		texts = append(texts, nodeText(e, i))
	}
	return texts
}

// checkSameValues holds an expression against the values of another one for all inputs.
func checkSameValues(t *testing.T, what string, e []node, f []node) {
	t.Helper()
	p, ok := impl.TableOf(e)
	q, fine := impl.TableOf(f)
	if !ok || !fine || len(p) != 4096 || !reflect.DeepEqual(p, q) {
		t.Errorf("%s: %v and %v have other values", what, e, f)
	}
}
