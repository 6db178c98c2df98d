package tests

import (
	"fmt"
	"strings"
	"testing"

	"loop.example/g01127/impl"
)

func TestParseExpr(t *testing.T) {
	for _, c := range []struct {
		text string
		want []node
	}{
		{"x0", []node{in(0)}}, {"x1", []node{in(1)}}, {"0", []node{constant(0)}}, {"63", []node{constant(63)}}, {"10", []node{constant(10)}},
		{"not(x1)", []node{in(1), one("not", 0)}},
		{"neg(0)", []node{constant(0), one("neg", 0)}},
		{"add(x0,mul(x1,3))", []node{in(0), in(1), constant(3), two("mul", 1, 2), two("add", 0, 3)}},
		{"sub(shl(x1,2),x1)", []node{in(1), constant(2), two("shl", 0, 1), in(1), two("sub", 2, 3)}},
	} {
		e, ok := impl.ParseExpr(c.text)
		if !ok || !sameList(e, c.want) {
			t.Error(c.text, e, ok)
		}
		if s, ok := impl.ExprText(c.want); !ok || s != c.text {
			t.Error(c.want, s, ok)
		}
	}
	for _, op := range twoOperands {
		if e, ok := impl.ParseExpr(op + "(x1,x0)"); !ok || !sameList(e, []node{in(1), in(0), two(op, 0, 1)}) {
			t.Error(op, e, ok)
		}
	}
}

func TestParseExprFails(t *testing.T) {
	for _, s := range []string{
		"", " ", "x", "x2", "x00", "X0", "x0 ", " x0", "x0\n", "\x00", "\xff",
		"64", "100", "00", "01", "-0", "-1", "+1", "1_0", "0x1", "1.0", "9223372036854775808", "99999999999999999999999999",
		"not", "not(", "not()", "not(x0", "not x0", "not(x0))", "not(x0)x1", "not(x0,x1)", "(x0)", "()", ")", "(", ",",
		"add", "add()", "add(x0)", "add(x0,)", "add(,x0)", "add(x0,x1", "add(x0,x1,1)", "add(x0;x1)", "add(x0, x1)", "add(x0,x1),", "add(x0,x1)(",
		"ADD(x0,x1)", "in(x0)", "in", "const", "const(3)", "div(x0,x1)", "add(x0,not)", "add(not,x0)", "x0(x1)", "3(x0)", "x0,x1",
		"addx0,x1)", "add(x0x1)", "not(x0)not(x0)", "mov(x0)", "add(x0)x1)", "not(add(x0,x1)",
	} {
		if e, ok := impl.ParseExpr(s); ok || len(e) != 0 {
			t.Errorf("%q is %v", s, e)
		}
	}
}

func TestTextsMeetTheLimits(t *testing.T) {
	deep := strings.Repeat("not(", 23) + "x0" + strings.Repeat(")", 23)
	if e, ok := impl.ParseExpr(deep); !ok || !sameList(e, chain(24)) {
		t.Error("exactly MaxNodes", e, ok)
	}
	if s, ok := impl.ExprText(chain(24)); !ok || s != deep {
		t.Error("text", s, ok)
	}
	if e, ok := impl.ParseExpr("neg(" + deep + ")"); ok || len(e) != 0 {
		t.Error("one more", e, ok)
	}
	wide := strings.Repeat("less(63,", 11) + "less(x0,x1)" + strings.Repeat(")", 11)
	if e, ok := impl.ParseExpr(wide); ok || len(e) != 0 {
		t.Error("25 nodes", e, ok)
	}
	wide = "not(" + wide[len("less(63,"):]
	if e, ok := impl.ParseExpr(wide); !ok || len(e) != 24 {
		t.Error("24 nodes", e, ok)
	}
}

// TestLongTexts has texts of 400 bytes and more; all have too many nodes, or are none.
func TestLongTexts(t *testing.T) {
	for _, s := range []string{
		strings.Repeat("not(", 79) + "12345" + strings.Repeat(")", 79),
		strings.Repeat("not(", 79) + "10" + strings.Repeat(")", 79) + "   ",
		strings.Repeat("0", 399) + "1",
		strings.Repeat("0", 400) + "1",
		strings.Repeat(" ", 399) + "1",
		"x0" + strings.Repeat(" ", 398),
		"x0" + strings.Repeat(" ", 399),
		strings.Repeat("(", 400),
		strings.Repeat("add(", 100),
		strings.Repeat("add(", 100) + "x",
		strings.Repeat("add(x0,", 1_000_000),
		// The stack of a reader that went down into this text would be too large.
		strings.Repeat("not(", 20_000_000),
	} {
		if len(s) < 400 {
			t.Fatal("too short", len(s))
		}
		if e, ok := impl.ParseExpr(s); ok || len(e) != 0 {
			t.Error("bytes", len(s), e)
		}
	}
}

func TestExprText(t *testing.T) {
	// A tree whose nodes are not in the order of its walk has the text of its walk.
	e := []node{in(1), constant(0), in(0), two("shl", 0, 1), two("less", 2, 3)}
	if s, ok := impl.ExprText(e); !ok || s != "less(x0,shl(x1,0))" {
		t.Error("text", s, ok)
	}
	for _, e := range [][]node{doubling(2), doubling(24), {in(1), one("not", 0), two("eq", 0, 1)}} {
		if s, ok := impl.ExprText(e); ok || s != "" {
			t.Error("no tree", e, s)
		}
	}
}

func TestTextsAndTreesGoTogether(t *testing.T) {
	d := dice(5)
	for range 2000 {
		e, ok := impl.ExpandExpr(d.expr(1 + d.below(12)))
		if !ok {
			continue
		}
		s, ok := impl.ExprText(e)
		if !ok || s != nodeText(e, len(e)-1) {
			t.Fatal("text", e, s)
		}
		if f, ok := impl.ParseExpr(s); !ok || !sameList(f, e) {
			t.Fatal("parsed", s, f)
		}
		checkBrokenText(t, &d, s)
	}
}

// checkBrokenText changes one byte: what is parsed all the same has to have just that text.
func checkBrokenText(t *testing.T, d *dice, s string) {
	t.Helper()
	for _, broken := range d.brokenTexts(s, "x0123456789(),adnotegmul ") {
		e, ok := impl.ParseExpr(broken)
		if !ok {
			if len(e) != 0 {
				t.Error("nodes of no text", fmt.Sprintf("%q", broken), e)
			}
			continue
		}
		if text, fine := impl.ExprText(e); !fine || text != broken {
			t.Errorf("%q is parsed as %q", broken, text)
		}
	}
}
