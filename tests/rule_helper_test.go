package tests

import (
	"slices"
	"strings"
	"testing"

	"loop.example/g01127/impl"
)

type rule = impl.Rule

var sides = []string{"any", "const", "odd", "power", "small"}

// commonTexts has the document's list of rules.
var commonTexts = []string{
	"add(x0,0)->x0", "sub(x0,0)->x0", "sub(x0,x0)->0", "mul(x0,0)->0", "mul(x0,1)->x0", "mul(x0,2)->shl(x0,1)",
	"and(x0,x0)->x0", "and(x0,63)->x0", "or(x0,0)->x0", "or(x0,x0)->x0", "xor(x0,x0)->0", "not(not(x0))->x0",
	"neg(neg(x0))->x0", "add(x0,neg(x1))->sub(x0,x1)", "sub(x0,neg(x1))->add(x0,x1)", "eq(x0,x0)->1",
	"less(x0,x0)->0", "and(x0,or(x0,x1))->x0", "or(x0,and(x0,x1))->x0",
}

func ruleOf(from []node, to []node, side string) rule { return rule{From: from, To: to, Side: side} }

func sameRule(r rule, s rule) bool {
	return sameList(r.From, s.From) && sameList(r.To, s.To) && r.Side == s.Side
}

func isZeroRule(r rule) bool { return len(r.From) == 0 && len(r.To) == 0 && r.Side == "" }

// parsedRule returns the rule with a text that is known to be that of one.
func parsedRule(t *testing.T, text string) rule {
	t.Helper()
	r, ok := impl.ParseRule(text)
	if !ok {
		t.Fatalf("ParseRule(%q) fails", text)
	}
	return r
}

func parsedRules(t *testing.T, texts ...string) []rule {
	t.Helper()
	var rules []rule
	for _, text := range texts {
		rules = append(rules, parsedRule(t, text))
	}
	return rules
}

// sideWords tells the words that a Side tells.
func sideWords(side string) []int {
	switch side {
	case "power":
		return []int{1, 2, 4, 8, 16, 32}
	case "small":
		return []int{1, 2, 3, 4, 5}
	}
	var words []int
	for word := range 64 {
		if side != "odd" || word == word/2*2+1 {
			words = append(words, word)
		}
	}
	return words
}

// refutedByHand tells all words x0 and x1 that refuse a rule, in order.
func refutedByHand(r rule) [][]int {
	words := sideWords(r.Side)
	return slices.DeleteFunc(differing(gridOf(r.From), gridOf(r.To)), func(x []int) bool {
		return !slices.Contains(words, x[1])
	})
}

func costByHand(e []node) int {
	cost := 0
	for _, n := range e {
		switch {
		case n.Op == "mul":
			cost += 4
		case n.Op == "shl" || n.Op == "shr":
			cost += 2
		case len(operands(n)) > 0:
			cost++
		}
	}
	return cost
}

func rootText(e []node) string { return nodeText(e, len(e)-1) }

func fallsByHand(r rule) bool {
	from, to := rootText(r.From), rootText(r.To)
	for _, hole := range []string{"x0", "x1"} {
		if strings.Count(to, hole) > strings.Count(from, hole) {
			return false
		}
	}
	return costByHand(r.To) < costByHand(r.From)
}

// pathTo tells on which way, told by the numbers of operands, the node i comes first to a leaf, nil if it does not.
func pathTo(e []node, i int, leaf node) []int {
	for k, p := range operands(e[i]) {
		if e[p] == leaf {
			return []int{k}
		}
		if path := pathTo(e, p, leaf); path != nil {
			return append([]int{k}, path...)
		}
	}
	return nil
}

// follow tells the node at the end of a way, -1 if it breaks off.
func follow(e []node, i int, path []int) int {
	for _, k := range path {
		below := operands(e[i])
		if k >= len(below) {
			return -1
		}
		i = below[k]
	}
	return i
}

// matchByHand tells for which nodes the holes stand, nil if the rule does not match: with the texts of these nodes for its holes, From has the text of the node i.
func matchByHand(r rule, e []node, i int) []int {
	stands, texts := []int{-1, -1}, []string{"", ""}
	for k := range 2 {
		path := pathTo(r.From, len(r.From)-1, in(k))
		if path == nil {
			continue
		}
		stands[k] = follow(e, i, path)
		if stands[k] < 0 {
			return nil
		}
		texts[k] = nodeText(e, stands[k])
	}
	if withHoles(r.From, texts) != nodeText(e, i) {
		return nil
	}
	if r.Side != "any" && (e[stands[1]].Op != "const" || !slices.Contains(sideWords(r.Side), e[stands[1]].Value)) {
		return nil
	}
	return stands
}

// withHoles tells a text with others for x0 and x1.
func withHoles(e []node, texts []string) string {
	return strings.NewReplacer("x0", texts[0], "x1", texts[1]).Replace(rootText(e))
}

// nested returns the text of n times not around another one.
func nested(n int, text string) string {
	return strings.Repeat("not(", n) + text + strings.Repeat(")", n)
}

// textWith tells the text of the node i with another text in place of that of the node j.
func textWith(e []node, i int, j int, text string) string {
	if i == j {
		return text
	}
	var below []string
	for _, p := range operands(e[i]) {
		below = append(below, textWith(e, p, j, text))
	}
	if len(below) == 0 {
		return nodeText(e, i)
	}
	return e[i].Op + "(" + strings.Join(below, ",") + ")"
}

// nodesIn tells how many nodes the tree with a text has.
func nodesIn(text string) int { return 1 + strings.Count(text, "(") + strings.Count(text, ",") }

// rewrittenByHand tells the text that is got by a rule at the node i, nothing if there is none.
func rewrittenByHand(r rule, e []node, i int) string {
	stands := matchByHand(r, e, i)
	if stands == nil {
		return ""
	}
	texts := []string{"", ""}
	for k, j := range stands {
		if j >= 0 {
			texts[k] = nodeText(e, j)
		}
	}
	text := textWith(e, len(e)-1, i, withHoles(r.To, texts))
	if nodesIn(text) > 24 {
		return ""
	}
	return text
}

// onceByHand tells the text that the first rule makes at its least node, its index and the node, nothing if there is none.
func onceByHand(rules []rule, e []node) (string, int, int) {
	for k, r := range rules {
		for i := range e {
			if text := rewrittenByHand(r, e, i); text != "" {
				return text, k, i
			}
		}
	}
	return "", 0, 0
}

// treeText returns the text of a tree of about n nodes with these leaves.
func (d *dice) treeText(n int, leaves []string) string {
	switch {
	case n <= 1:
		return leaves[d.below(len(leaves))]
	case n == 2 || d.below(5) == 0:
		return oneOperand[d.below(2)] + "(" + d.treeText(n-1, leaves) + ")"
	}
	left := 1 + d.below(n-2)
	return twoOperands[d.below(10)] + "(" + d.treeText(left, leaves) + "," + d.treeText(n-1-left, leaves) + ")"
}

var someLeaves = []string{"x0", "x1", "0", "1", "2", "5", "63"}

// rule returns a rule with small trees.
func (d *dice) rule(t *testing.T) rule {
	t.Helper()
	from := d.treeText(2+d.below(5), someLeaves)
	leaves := []string{"0", "1", "7"}
	for _, hole := range []string{"x0", "x1"} {
		if strings.Contains(from, hole) {
			leaves = append(leaves, hole, hole)
		}
	}
	side := "any"
	if strings.Contains(from, "x1") {
		side = sides[d.below(5)]
	}
	return parsedRule(t, from+"->"+d.treeText(1+d.below(5), leaves)+"/"+side)
}

// shuffled returns the tree in another order, in which operands come before what they are operands of.
func (d *dice) shuffled(e []node) []node {
	var order []int
	for len(order) < len(e) {
		var ready []int
		for i, n := range e {
			if !slices.Contains(order, i) && !slices.ContainsFunc(operands(n), func(p int) bool { return !slices.Contains(order, p) }) {
				ready = append(ready, i)
			}
		}
		order = append(order, ready[d.below(len(ready))])
	}
	var f []node
	for _, i := range order {
		n := e[i]
		switch len(operands(n)) {
		case 1:
			n.A = slices.Index(order, n.A)
		case 2:
			n.A, n.B = slices.Index(order, n.A), slices.Index(order, n.B)
		}
		f = append(f, n)
	}
	return f
}

// host returns a tree, in any order, in which a rule matches at some node, or nearly does.
func (d *dice) host(t *testing.T, r rule) []node {
	t.Helper()
	for {
		texts := []string{d.treeText(1+d.below(4), someLeaves), d.treeText(1+d.below(2)*d.below(3), someLeaves)}
		text := withHoles(r.From, texts)
		switch d.below(4) {
		case 0:
			text = "sub(" + text + "," + d.treeText(1+d.below(4), someLeaves) + ")"
		case 1:
			text = "or(" + text + "," + withHoles(r.From, []string{"x1", "3"}) + ")"
		case 2:
			text = nested(d.below(max(1, 25-nodesIn(text))), text)
		}
		if nodesIn(text) <= 24 {
			return d.shuffled(parsed(t, text))
		}
	}
}

// invalidRules returns what is no rule.
func invalidRules(t *testing.T) []rule {
	t.Helper()
	x0, zero := []node{in(0)}, []node{constant(0)}
	not, sum, left := parsed(t, "not(x0)"), parsed(t, "add(x0,x1)"), parsed(t, "not(x1)")
	disordered := []node{in(1), in(0), two("add", 1, 0)}
	rules := []rule{
		{}, ruleOf(nil, nil, "any"), ruleOf(not, nil, "any"), ruleOf(nil, x0, "any"), ruleOf(not, x0, ""),
		ruleOf(x0, zero, "any"), ruleOf(zero, zero, "any"), ruleOf([]node{in(1)}, zero, "odd"),
		ruleOf(not, []node{in(1)}, "any"), ruleOf(left, x0, "any"), ruleOf(left, x0, "odd"), ruleOf(not, sum, "any"),
		ruleOf(parsed(t, "not(1)"), x0, "any"), ruleOf(parsed(t, "not(0)"), []node{in(1)}, "any"),
		ruleOf(disordered, x0, "any"), ruleOf(sum, disordered, "any"),
		ruleOf(sum, doubling(2), "any"), ruleOf(doubling(2), x0, "any"), ruleOf(doubling(24), x0, "any"),
		ruleOf(sum, []node{in(0), constant(1), two("add", 1, 0)}, "any"),
		ruleOf(chain(25), x0, "any"), ruleOf(not, chain(25), "any"),
	}
	for _, side := range []string{"", "Any", "any ", " any", "odds", "od", "powers", "one", "any/any", "\xff", "const\x00"} {
		rules = append(rules, ruleOf(sum, x0, side))
	}
	for _, side := range sides[1:] {
		rules = append(rules, ruleOf(not, x0, side), ruleOf(parsed(t, "not(1)"), zero, side))
	}
	for _, e := range invalidExprs() {
		rules = append(rules, ruleOf(e, x0, "any"), ruleOf(sum, e, "any"), ruleOf(e, e, "const"))
	}
	return rules
}
