package tests

import (
	"slices"
	"testing"

	"loop.example/g01127/impl"
)

// checkOrdered wants the expression with a text to become the one with another text when it is put in order.
func checkOrdered(t *testing.T, from string, to string) {
	t.Helper()
	for _, e := range [][]node{parsed(t, from), sharedByHand(from)} {
		if f, ok := impl.OrderedExpr(e); !ok || !sameList(f, sharedByHand(to)) {
			t.Error("ordered", from, f, ok, to)
		}
	}
}

// TestPromise8OrderOfOperands has for each op operands in order and such that are not.
func TestPromise8OrderOfOperands(t *testing.T) {
	pairs := [][]string{
		{"x0", "x1"}, {"x0", "0"}, {"x1", "0"}, {"x1", "63"}, {"x0", "not(x0)"}, {"x1", "not(x0)"}, {"0", "not(x0)"}, {"63", "not(0)"}, {"5", "eq(x0,x1)"},
		{"2", "3"}, {"0", "63"}, {"9", "10"}, {"5", "40"},
		// Equal ops are told by their first operands, and then by their second ones.
		{"not(x0)", "not(x1)"}, {"neg(x1)", "neg(0)"}, {"neg(9)", "neg(10)"}, {"not(3)", "not(not(x0))"},
		{"sub(x0,x1)", "sub(x1,x0)"}, {"sub(x0,x0)", "sub(x0,x1)"}, {"less(x0,eq(x0,x1))", "less(x1,x0)"}, {"shl(x1,5)", "shl(x1,6)"},
		{"shr(2,neg(x0))", "shr(3,x0)"}, {"sub(not(x0),x1)", "sub(not(x1),x0)"}, {"sub(not(x1),x0)", "sub(not(x1),x1)"}, {"less(x1,not(x0))", "less(x1,neg(x0))"},
	}
	for i, op := range inOrder[1:] {
		small, large := inOrder[i]+"(x1)", op+"(x0)"
		if i > 0 {
			large = op + "(x0,x0)"
		}
		if i > 1 {
			small = inOrder[i] + "(x1,63)"
		}
		pairs = append(pairs, []string{small, large})
	}
	for _, op := range twoOperands {
		for _, pair := range pairs {
			right, wrong := joined(op, pair), joined(op, []string{pair[1], pair[0]})
			checkOrdered(t, right, right)
			if slices.Contains(exchanged, op) {
				checkOrdered(t, wrong, right)
			} else {
				checkOrdered(t, wrong, wrong)
			}
		}
	}
}

func TestPromise8OrderByOne(t *testing.T) {
	for _, c := range []struct{ from, to string }{
		{"x0", "x0"}, {"7", "7"}, {"not(x1)", "not(x1)"}, {"neg(not(5))", "neg(not(5))"},
		{"add(x1,x0)", "add(x0,x1)"}, {"add(x0,x1)", "add(x0,x1)"}, {"add(x1,x1)", "add(x1,x1)"}, {"mul(3,x1)", "mul(x1,3)"}, {"and(10,9)", "and(9,10)"},
		{"or(not(x0),3)", "or(3,not(x0))"}, {"xor(not(x0),x1)", "xor(x1,not(x0))"}, {"eq(neg(x0),not(x1))", "eq(not(x1),neg(x0))"},
		{"sub(x1,x0)", "sub(x1,x0)"}, {"sub(3,x0)", "sub(3,x0)"}, {"shl(3,x0)", "shl(3,x0)"}, {"shr(x1,x0)", "shr(x1,x0)"}, {"less(not(x0),2)", "less(not(x0),2)"},
		// Operands are put in order before they are compared.
		{"add(add(x1,x0),add(x0,x0))", "add(add(x0,x0),add(x0,x1))"}, {"mul(and(x1,5),and(4,x1))", "mul(and(x1,4),and(x1,5))"},
		{"sub(add(x1,x0),5)", "sub(add(x0,x1),5)"}, {"less(mul(2,x0),or(x1,x0))", "less(mul(x0,2),or(x0,x1))"},
		{"or(sub(mul(x1,x0),x1),sub(mul(x0,x1),x0))", "or(sub(mul(x0,x1),x0),sub(mul(x0,x1),x1))"},
		// Nothing is made simpler.
		{"add(2,1)", "add(1,2)"}, {"sub(x0,x0)", "sub(x0,x0)"}, {"add(0,x0)", "add(x0,0)"}, {"eq(x0,x0)", "eq(x0,x0)"},
		// Nothing is put in another order than by exchange.
		{"add(add(x1,1),x0)", "add(x0,add(x1,1))"}, {"add(x1,add(x0,1))", "add(x1,add(x0,1))"},
	} {
		checkOrdered(t, c.from, c.to)
	}
}

// TestPromise8OrderShares has nodes that are equal only after operands are exchanged, and the order of the walk behind that.
func TestPromise8OrderShares(t *testing.T) {
	for _, c := range []struct{ e, want []node }{
		{parsed(t, "sub(add(x0,x1),add(x1,x0))"), []node{in(0), in(1), two("add", 0, 1), two("sub", 2, 2)}},
		{parsed(t, "mul(add(x1,x0),add(x0,x1))"), []node{in(0), in(1), two("add", 0, 1), two("mul", 2, 2)}},
		{
			parsed(t, "less(xor(or(x1,x0),neg(eq(2,x0))),xor(neg(eq(x0,2)),or(x0,x1)))"),
			[]node{in(0), constant(2), two("eq", 0, 1), one("neg", 2), in(1), two("or", 0, 4), two("xor", 3, 5), two("less", 6, 6)},
		},
		{[]node{in(0), in(0), two("add", 1, 0)}, []node{in(0), two("add", 0, 0)}},
		{[]node{constant(1), in(1), in(0), two("sub", 1, 2), two("and", 3, 0)}, []node{constant(1), in(1), in(0), two("sub", 1, 2), two("and", 0, 3)}},
		{[]node{in(1), in(0), two("add", 0, 1), two("shl", 2, 0)}, []node{in(0), in(1), two("add", 0, 1), two("shl", 2, 1)}},
		{doubling(24), doubling(24)},
		{chain(24), chain(24)},
	} {
		if f, ok := impl.OrderedExpr(c.e); !ok || !sameList(f, c.want) {
			t.Error("ordered", c.e, f, ok, c.want)
		}
	}
}

// turnedExpr returns an expression with the operands of some nodes exchanged, for which it does not matter.
func (d *dice) turnedExpr(e []node) []node {
	turned := copyOf(e)
	for i, n := range e {
		if slices.Contains(exchanged, n.Op) && d.below(2) == 0 {
			turned[i].A, turned[i].B = n.B, n.A
		}
	}
	return turned
}

// TestPromise8Order holds expressions put in order against texts, and those that differ by exchanges alone against each other.
func TestPromise8Order(t *testing.T) {
	d := dice(101)
	for k := range 600 {
		n := 1 + d.below(12)
		if k%4 == 0 {
			n = 24
		}
		e := d.expr(n)
		f, ok := impl.OrderedExpr(e)
		if !ok || !impl.IsExpr(f) {
			t.Fatal("ordered", e, f, ok)
		}
		if text := rootText(e); len(text) <= mostText && !sameList(f, sharedByHand(orderedText(text))) {
			t.Error("ordered", e, f, orderedText(text))
		}
		checkSameValues(t, "ordered", e, f)
		for _, other := range [][]node{f, d.turnedExpr(e), d.turnedExpr(f)} {
			if again, ok := impl.OrderedExpr(other); !ok || !sameList(again, f) {
				t.Error("again", e, other, again, f)
			}
		}
	}
}
