package tests

import (
	"slices"
	"strings"

	"loop.example/g01127/impl"
)

type known = impl.Known

func bitsOf(zeros int, ones int) known { return known{Zeros: zeros, Ones: ones} }

// grid has the values for all inputs, by x0 and then by x1.
type grid [64][64]int

func gridOf(e []node) grid {
	var g grid
	for x0 := range 64 {
		for x1 := range 64 {
			values := nodeValues(e, x0, x1)
			g[x0][x1] = values[len(values)-1]
		}
	}
	return g
}

// differing tells the inputs for which two grids differ, in order.
func differing(p grid, q grid) [][]int {
	var list [][]int
	for x0 := range 64 {
		for x1 := range 64 {
			if p[x0][x1] != q[x0][x1] {
				list = append(list, []int{x0, x1})
			}
		}
	}
	return list
}

// witnessIn tells the first inputs and the least word in place of the input k that changes the value, nil if there are none.
func witnessIn(g grid, k int) []int {
	for x0 := range 64 {
		for x1 := range 64 {
			for word := range 64 {
				if k == 0 && g[word][x1] != g[x0][x1] || k == 1 && g[x0][word] != g[x0][x1] {
					return []int{x0, x1, word}
				}
			}
		}
	}
	return nil
}

// isBit tells whether the bit of the worth 2^place is in a word.
func isBit(word int, place int) bool {
	for range place {
		word /= 2
	}
	return word%2 == 1
}

// markedAt returns an expression with the values of e but for one pair of inputs, for which they differ in the bits of mask. It has 10 nodes more.
func markedAt(e []node, x0 int, x1 int, mask int) []node {
	n := len(e)
	return append(copyOf(e),
		in(0), constant(x0), two("eq", n, n+1),
		in(1), constant(x1), two("eq", n+3, n+4),
		two("and", n+2, n+5), constant(mask), two("mul", n+6, n+7),
		two("xor", n-1, n+8))
}

// askedByHand tells which bits of the node i are asked for: later nodes are made anew from a list of values with another one in place.
func askedByHand(e []node, i int) int {
	asked, worth := 0, 1
	for place := range 6 {
		if isAskedByHand(e, i, place, worth) {
			asked += worth
		}
		worth *= 2
	}
	return asked
}

func isAskedByHand(e []node, i int, place int, worth int) bool {
	for x0 := range 64 {
		for x1 := range 64 {
			values := nodeValues(e, x0, x1)
			before := values[len(e)-1]
			if isBit(values[i], place) {
				values[i] -= worth
			} else {
				values[i] += worth
			}
			for j := i + 1; j < len(e); j++ {
				switch p := operands(e[j]); len(p) {
				case 1:
					values[j] = opValue(e[j].Op, values[p[0]], 0)
				case 2:
					values[j] = opValue(e[j].Op, values[p[0]], values[p[1]])
				}
			}
			if values[len(e)-1] != before {
				return true
			}
		}
	}
	return false
}

// digits tells known bits from the lowest one on: 0, 1 or ? for one that is not known.
func digits(k known) string {
	text := ""
	for place := range 6 {
		switch {
		case isBit(k.Zeros, place):
			text += "0"
		case isBit(k.Ones, place):
			text += "1"
		default:
			text += "?"
		}
	}
	return text
}

// knownOfDigits is the way back from digits.
func knownOfDigits(text string) known {
	k, worth := known{}, 1
	for _, digit := range text {
		switch digit {
		case '0':
			k.Zeros += worth
		case '1':
			k.Ones += worth
		}
		worth *= 2
	}
	return k
}

// allKnown returns all known bits.
func allKnown() []known {
	texts := []string{""}
	for range 6 {
		var longer []string
		for _, text := range texts {
			longer = append(longer, text+"0", text+"1", text+"?")
		}
		texts = longer
	}
	var list []known
	for _, text := range texts {
		list = append(list, knownOfDigits(text))
	}
	return list
}

func (d *dice) known() known {
	text := ""
	for range 6 {
		text += []string{"0", "1", "?"}[d.below(3)]
	}
	return knownOfDigits(text)
}

// wordDigits tells the digits of a word.
func wordDigits(word int) string { return digits(known{Zeros: 63 - word, Ones: word}) }

// onesOf tells the word with a 1 for each 1 among digits.
func onesOf(text string) int { return knownOfDigits(text).Ones }

// fitting tells the words that fit known bits.
func fitting(k known) []int {
	var list []int
	for word := range 64 {
		fits := true
		for place, digit := range digits(k) {
			fits = fits && (digit == '?' || (digit == '1') == isBit(word, place))
		}
		if fits {
			list = append(list, word)
		}
	}
	return list
}

// ruleDigits tells what the document's rules tell of the value of an op with operands of these digits; those of b are all ? for not and neg.
func ruleDigits(op string, a string, b string) string {
	single := slices.Contains(oneOperand, op)
	if !strings.Contains(a, "?") && (single || !strings.Contains(b, "?")) {
		return wordDigits(opValue(op, onesOf(a), onesOf(b)))
	}
	switch op {
	case "not":
		return strings.NewReplacer("0", "1", "1", "0").Replace(a)
	case "neg":
		return ruleDigits("sub", "000000", a)
	case "add", "sub", "mul":
		return lowestDigits(op, a, b)
	case "less", "eq":
		return "?00000"
	case "shl", "shr":
		return movedDigits(op, a, b)
	}
	text := ""
	for i := range 6 {
		text += bitDigit(op, a[i:i+1], b[i:i+1])
	}
	return text
}

func bitDigit(op string, a string, b string) string {
	switch {
	case a != "?" && b != "?":
		return wordDigits(opValue(op, onesOf(a), onesOf(b)))[:1]
	case op == "and" && (a == "0" || b == "0"):
		return "0"
	case op == "or" && (a == "1" || b == "1"):
		return "1"
	}
	return "?"
}

func lowestDigits(op string, a string, b string) string {
	low := 0
	for low < 6 && a[low] != '?' && b[low] != '?' {
		low++
	}
	text := wordDigits(opValue(op, onesOf(a), onesOf(b)))[:low] + "??????"[low:]
	if op != "mul" {
		return text
	}
	zeros := 12 - len(strings.TrimLeft(a, "0")) - len(strings.TrimLeft(b, "0"))
	if zeros > 6 {
		zeros = 6
	}
	return "000000"[:zeros] + text[zeros:]
}

func movedDigits(op string, a string, b string) string {
	places := onesOf(b)
	switch {
	case strings.Contains(b, "?"):
		return "??????"
	case places > 5:
		return "000000"
	case op == "shl":
		return ("000000"[:places] + a)[:6]
	}
	return a[places:] + "000000"[:places]
}

// rulesByHand tells what the rules tell of each node.
func rulesByHand(e []node) []known {
	var texts []string
	var list []known
	for _, n := range e {
		text := "??????"
		switch p := operands(n); {
		case n.Op == "const":
			text = wordDigits(n.Value)
		case len(p) == 1:
			text = ruleDigits(n.Op, texts[p[0]], "??????")
		case len(p) == 2:
			text = ruleDigits(n.Op, texts[p[0]], texts[p[1]])
		}
		texts = append(texts, text)
		list = append(list, knownOfDigits(text))
	}
	return list
}

// invalidKnown returns pairs that are no known bits.
func invalidKnown() []known {
	list := []known{bitsOf(1, 1), bitsOf(63, 63), bitsOf(63, 1), bitsOf(32, 63), bitsOf(5, 4), bitsOf(-1, -1), bitsOf(64, 64)}
	for _, bad := range extremes {
		if bad < 0 || bad > 63 {
			list = append(list, known{Zeros: bad}, known{Ones: bad}, known{Zeros: bad, Ones: 1}, known{Zeros: 1, Ones: bad})
		}
	}
	return list
}
