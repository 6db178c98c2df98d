package tests

import (
	"math"
	"slices"
	"testing"

	"loop.example/g01127/impl"
)

func TestIsKnown(t *testing.T) {
	for _, k := range allKnown() {
		if !impl.IsKnown(k) {
			t.Error("refused", k)
		}
	}
	for _, k := range invalidKnown() {
		if impl.IsKnown(k) {
			t.Error("taken", k)
		}
	}
}

func TestDoesKnow(t *testing.T) {
	for _, k := range allKnown() {
		words := fitting(k)
		for word := range 64 {
			if is, ok := impl.DoesKnow(k, word); !ok || is != slices.Contains(words, word) {
				t.Error("fits", k, word, is, ok)
			}
		}
		for _, word := range []int{-1, 64, math.MinInt, math.MaxInt} {
			if is, ok := impl.DoesKnow(k, word); ok || is {
				t.Error("no word", k, word, is, ok)
			}
		}
	}
	for _, k := range invalidKnown() {
		for _, word := range extremes {
			if is, ok := impl.DoesKnow(k, word); ok || is {
				t.Error("no known bits", k, word, is, ok)
			}
		}
	}
}

func TestJoinKnown(t *testing.T) {
	list := allKnown()
	for i, a := range list {
		for _, b := range list[i%3:] {
			p, q := digits(a), digits(b)
			want := ""
			for place := range 6 {
				if p[place] == q[place] {
					want += p[place : place+1]
				} else {
					want += "?"
				}
			}
			if k, ok := impl.JoinKnown(a, b); !ok || k != knownOfDigits(want) {
				t.Fatal("joined", p, q, want, k, ok)
			}
		}
	}
	for _, bad := range invalidKnown() {
		for _, pair := range [][2]known{{bad, {}}, {{}, bad}, {bad, bad}, {bad, {Zeros: 62, Ones: 1}}} {
			if k, ok := impl.JoinKnown(pair[0], pair[1]); ok || k != (known{}) {
				t.Error("joined", pair, k, ok)
			}
		}
	}
}

// TestKnownOfByHand has digits from the lowest one on.
func TestKnownOfByHand(t *testing.T) {
	for _, c := range []struct{ op, a, b, want string }{
		// All bits of the operands are known, and none.
		{"not", "101000", "??????", "010111"}, {"neg", "100000", "??????", "111111"}, {"neg", "000000", "??????", "000000"},
		{"add", "001111", "011000", "010000"}, {"less", "010000", "110000", "100000"}, {"eq", "010000", "110000", "000000"},
		{"shl", "101000", "001000", "000010"}, {"mul", "111111", "111111", "100000"}, {"sub", "000000", "100000", "111111"},
		{"not", "??????", "??????", "??????"}, {"neg", "??????", "??????", "??????"}, {"add", "??????", "??????", "??????"},
		{"mul", "??????", "??????", "??????"}, {"xor", "??????", "??????", "??????"}, {"shl", "??????", "??????", "??????"},
		{"shr", "??????", "??????", "??????"}, {"less", "??????", "??????", "?00000"}, {"eq", "??????", "??????", "?00000"},
		// Bit by bit.
		{"not", "01?01?", "??????", "10?10?"},
		{"and", "000111", "01?01?", "00001?"}, {"and", "???01?", "01?0??", "0??0??"}, {"and", "??????", "000000", "000000"},
		{"or", "000111", "01?01?", "01?111"}, {"or", "???01?", "01?0??", "?1?01?"}, {"or", "??????", "111111", "111111"},
		{"xor", "000111", "01?01?", "01?10?"}, {"xor", "???01?", "01?011", "???00?"},
		// The lowest bits, up to the first one that is not known in both.
		{"add", "11?000", "1100?0", "01????"}, {"add", "?11111", "111111", "??????"}, {"add", "11111?", "100000", "00000?"},
		{"sub", "00?000", "110000", "10????"}, {"sub", "0000??", "1?0000", "1?????"}, {"sub", "111111", "?00000", "??????"},
		{"neg", "10?111", "??????", "11????"}, {"neg", "?11111", "??????", "??????"}, {"neg", "0000?1", "??????", "0000??"},
		{"mul", "11?111", "110000", "10????"}, {"mul", "1?1111", "111111", "1?????"},
		// The known zeros of a product, those of one operand and of both.
		{"mul", "??????", "011000", "0?????"}, {"mul", "00????", "??????", "00????"}, {"mul", "00????", "000???", "00000?"},
		{"mul", "00010?", "000?00", "000000"}, {"mul", "00000?", "00000?", "000000"}, {"mul", "000000", "??????", "000000"},
		{"mul", "??????", "000000", "000000"}, {"mul", "01?111", "01?111", "00????"}, {"mul", "010???", "000010", "00000?"},
		// 1 bits that are known above zeros that are known.
		{"mul", "0110??", "011000", "0010??"}, {"mul", "01????", "1?????", "0?????"},
		// Shifts by a known number, also of more than 5, and by others.
		{"shl", "01?01?", "000000", "01?01?"}, {"shl", "01?01?", "100000", "001?01"}, {"shl", "1?????", "101000", "000001"},
		{"shl", "??????", "011000", "000000"}, {"shl", "111?11", "000001", "000000"}, {"shl", "?1?1?1", "111111", "000000"},
		{"shr", "01?01?", "000000", "01?01?"}, {"shr", "01?01?", "100000", "1?01?0"}, {"shr", "?????1", "101000", "100000"},
		{"shr", "??????", "011000", "000000"}, {"shr", "111?11", "000001", "000000"}, {"shr", "?1?1?1", "111111", "000000"},
		{"shl", "000000", "?00000", "??????"}, {"shl", "111111", "11111?", "??????"}, {"shr", "000000", "?00000", "??????"}, {"shr", "111111", "011??1", "??????"},
		// These two have zeros in all bits but the lowest one, whatever the operands.
		{"less", "000000", "?11111", "?00000"}, {"less", "??????", "000000", "?00000"}, {"eq", "0?????", "1?????", "?00000"}, {"eq", "111111", "11111?", "?00000"},
	} {
		a, b := knownOfDigits(c.a), knownOfDigits(c.b)
		if k, ok := impl.KnownOf(c.op, a, b); !ok || digits(k) != c.want {
			t.Error(c, digits(k), ok)
		}
		if want := ruleDigits(c.op, c.a, c.b); want != c.want {
			t.Error("told otherwise", c, want)
		}
	}
}

// TestPromise3KnownOf has many known bits as operands, and holds the result against the rules and against the words that fit.
func TestPromise3KnownOf(t *testing.T) {
	d := dice(35)
	list := allKnown()
	for i, a := range list {
		for _, op := range oneOperand {
			checkKnownOf(t, op, a, known{}, true)
		}
		for j, b := range list {
			if (i*3+j)%7 != 0 {
				continue
			}
			for _, op := range twoOperands {
				checkKnownOf(t, op, a, b, d.below(40) == 0)
			}
		}
	}
}

func checkKnownOf(t *testing.T, op string, a known, b known, words bool) {
	t.Helper()
	k, ok := impl.KnownOf(op, a, b)
	if want := ruleDigits(op, digits(a), digits(b)); !ok || digits(k) != want {
		t.Fatal("known of", op, digits(a), digits(b), digits(k), want, ok)
	}
	if !words {
		return
	}
	for _, p := range fitting(a) {
		for _, q := range fitting(b) {
			value := opValue(op, p, q)
			if is, ok := impl.DoesKnow(k, value); !is || !ok {
				t.Fatal("does not hold", op, a, b, p, q, value, k)
			}
		}
	}
}

func TestKnownOfFails(t *testing.T) {
	fails := func(op string, a known, b known) {
		t.Helper()
		if k, ok := impl.KnownOf(op, a, b); ok || k != (known{}) {
			t.Errorf("%q %v %v is %v, %v", op, a, b, k, ok)
		}
	}
	for _, op := range []string{"", "in", "const", "mov", "set", "ADD", "add ", "addi", "lea", "x0", "\xff"} {
		fails(op, known{}, known{})
		fails(op, known{Zeros: 63}, known{Ones: 63})
	}
	for _, bad := range invalidKnown() {
		for _, op := range append(slices.Clone(oneOperand), twoOperands...) {
			fails(op, bad, known{})
			fails(op, known{}, bad)
			fails(op, bad, bad)
			fails(op, known{Zeros: 63}, bad)
		}
	}
	// The operand that these do not have is not known.
	for _, op := range oneOperand {
		fails(op, known{Zeros: 63}, known{Zeros: 63})
		fails(op, known{}, known{Zeros: 1})
		fails(op, known{Ones: 1}, known{Ones: 32})
	}
}

func TestKnownByRules(t *testing.T) {
	for _, c := range []struct {
		text string
		want []known
	}{
		{"x0", []known{{}}}, {"x1", []known{{}}}, {"0", []known{bitsOf(63, 0)}}, {"63", []known{bitsOf(0, 63)}}, {"5", []known{bitsOf(58, 5)}},
		{"mul(x0,6)", []known{{}, bitsOf(57, 6), bitsOf(1, 0)}},
		{"and(x0,7)", []known{{}, bitsOf(56, 7), bitsOf(56, 0)}},
		{"neg(1)", []known{bitsOf(62, 1), bitsOf(0, 63)}}, {"not(or(x1,3))", []known{{}, bitsOf(60, 3), bitsOf(0, 3), bitsOf(3, 0)}},
		// The rules do not see that the operands are the same node, or that all inputs lead to one value.
		{"sub(x0,x0)", []known{{}, {}, {}}}, {"less(x0,0)", []known{{}, bitsOf(63, 0), bitsOf(62, 0)}},
		{"shl(x0,9)", []known{{}, bitsOf(54, 9), bitsOf(63, 0)}}, {"add(2,3)", []known{bitsOf(61, 2), bitsOf(60, 3), bitsOf(58, 5)}},
		{"shr(shl(x0,4),1)", []known{{}, bitsOf(59, 4), bitsOf(15, 0), bitsOf(62, 1), bitsOf(39, 0)}},
		{"eq(shl(x0,x1),1)", []known{{}, {}, {}, bitsOf(62, 1), bitsOf(62, 0)}},
	} {
		if list, ok := impl.KnownByRules(parsed(t, c.text)); !ok || !slices.Equal(list, c.want) {
			t.Error(c.text, list, ok)
		}
	}
}

func TestKnownBits(t *testing.T) {
	for _, c := range []struct {
		text string
		want known
	}{
		{"x0", known{}}, {"x1", known{}}, {"0", bitsOf(63, 0)}, {"63", bitsOf(0, 63)}, {"5", bitsOf(58, 5)},
		{"mul(x0,6)", bitsOf(1, 0)}, {"sub(x0,x0)", bitsOf(63, 0)}, {"eq(x1,x1)", bitsOf(62, 1)}, {"xor(x0,not(x0))", bitsOf(0, 63)},
		{"or(and(x0,8),5)", bitsOf(50, 5)}, {"less(x0,0)", bitsOf(63, 0)}, {"less(x0,x1)", bitsOf(62, 0)}, {"add(x0,x1)", known{}},
		// One pair of inputs takes a bit away.
		{"eq(and(x0,x1),63)", bitsOf(62, 0)}, {"eq(or(x0,x1),0)", bitsOf(62, 0)}, {"mul(eq(and(x0,x1),63),5)", bitsOf(58, 0)},
		{"sub(63,eq(or(x0,x1),0))", bitsOf(0, 62)}, {"not(mul(eq(and(x0,x1),63),5))", bitsOf(0, 58)},
	} {
		if k, ok := impl.KnownBits(parsed(t, c.text)); !ok || k != c.want {
			t.Error(c.text, k, ok)
		}
	}
}

// TestPromise3KnownBitsHold holds the bits known by rules and by all values against each other and against values that are told independently.
func TestPromise3KnownBitsHold(t *testing.T) {
	d := dice(36)
	for range 60 {
		e := d.expr(1 + d.below(16))
		list, ok := impl.KnownByRules(e)
		if !ok || !slices.Equal(list, rulesByHand(e)) {
			t.Fatal("rules", e, list, ok)
		}
		exact := make([]known, len(e))
		for i := range exact {
			exact[i] = bitsOf(63, 63)
		}
		for x0 := range 64 {
			for x1 := range 64 {
				for i, value := range nodeValues(e, x0, x1) {
					exact[i] = bitsOf(opValue("and", exact[i].Zeros, 63-value), opValue("and", exact[i].Ones, value))
				}
			}
		}
		for i, k := range list {
			if joined, ok := impl.JoinKnown(k, exact[i]); !ok || joined != k {
				t.Error("rules tell too much", e, i, k, exact[i])
			}
			sub, _ := impl.SubExpr(e, i)
			if all, ok := impl.KnownBits(sub); !ok || all != exact[i] {
				t.Error("known bits", sub, all, exact[i])
			}
		}
	}
}

func TestAskedBits(t *testing.T) {
	for _, c := range []struct {
		text string
		want []int
	}{
		// The root, which may be a leaf.
		{"x0", []int{63}}, {"0", []int{63}}, {"not(x1)", []int{63, 63}},
		// Nodes whose bits are never asked for, and some bits.
		{"mul(x0,0)", []int{0, 63, 63}}, {"and(x0,0)", []int{0, 63, 63}}, {"and(x0,6)", []int{6, 63, 63}}, {"or(x0,6)", []int{57, 63, 63}},
		{"shl(x0,4)", []int{3, 63, 63}}, {"shr(x0,4)", []int{48, 63, 63}}, {"shl(x0,9)", []int{0, 8, 63}}, {"shr(shl(x0,1),1)", []int{31, 63, 62, 63, 63}},
		{"mul(x0,8)", []int{7, 63, 63}}, {"and(add(x0,x1),3)", []int{3, 3, 3, 63, 63}}, {"eq(x0,5)", []int{63, 63, 63}},
		{"less(x0,32)", []int{32, 63, 63}}, {"less(x0,0)", []int{0, 63, 63}}, {"mul(mul(x0,x1),0)", []int{0, 0, 0, 63, 63}},
		// Equal leaves are different nodes, of which one is changed alone.
		{"sub(x0,x0)", []int{63, 63, 63}}, {"eq(and(x0,x0),x0)", []int{63, 63, 63, 63, 63}},
		// For the last inputs alone.
		{"and(eq(and(x0,x1),63),1)", []int{63, 63, 63, 63, 1, 1, 63}},
	} {
		e := parsed(t, c.text)
		for i, want := range c.want {
			if word, ok := impl.AskedBits(e, i); !ok || word != want {
				t.Error(c.text, i, word, ok)
			}
		}
	}
	// A node that is both operands changes both.
	for _, c := range []struct {
		op   string
		want int
	}{{"sub", 0}, {"xor", 0}, {"eq", 0}, {"less", 0}, {"and", 63}, {"add", 31}} {
		if word, ok := impl.AskedBits([]node{in(0), two(c.op, 0, 0)}, 0); !ok || word != c.want {
			t.Error(c.op, word, ok)
		}
	}
	// The bit is asked for at the first or at the last inputs alone.
	for _, inputs := range [][]int{{0, 0}, {63, 63}, {17, 40}} {
		e := append(markedAt([]node{constant(0)}, inputs[0], inputs[1], 1), in(0), two("mul", 10, 11))
		want := askedByHand(e, 11)
		if word, ok := impl.AskedBits(e, 11); !ok || word != want || want != 63 {
			t.Error("one place", inputs, word, want, ok)
		}
	}
}

func TestPromise3AskedBits(t *testing.T) {
	d := dice(37)
	for range 40 {
		e := d.expr(1 + d.below(10))
		i := d.below(len(e))
		if word, ok := impl.AskedBits(e, i); !ok || word != askedByHand(e, i) {
			t.Error("asked", e, i, word, ok)
		}
		if word, ok := impl.AskedBits(e, len(e)-1); !ok || word != 63 {
			t.Error("root", e, word, ok)
		}
	}
}

func TestAskedBitsFails(t *testing.T) {
	for _, e := range [][]node{{in(0)}, {constant(3), one("not", 0)}, chain(24)} {
		for _, i := range []int{-1, len(e), len(e) + 1, 24, 63, math.MinInt, math.MaxInt} {
			if word, ok := impl.AskedBits(e, i); ok || word != 0 {
				t.Error("no node", e, i, word, ok)
			}
		}
	}
}
