package tests

import (
	"fmt"
	"slices"
	"strings"
	"testing"

	"loop.example/g01127/impl"
)

func TestPromise4IsRule(t *testing.T) {
	for _, text := range append(slices.Clone(commonTexts), "not(x1)->x1", "add(1,2)->3", "neg(x0)->add(add(x0,x0),mul(x0,63))") {
		from, to, _ := strings.Cut(text, "->")
		if !impl.IsRule(ruleOf(parsed(t, from), parsed(t, to), "any")) {
			t.Error("no rule", text)
		}
	}
	for _, side := range sides {
		for _, text := range []string{"neg(x1)", "add(x0,x1)", "mul(x1,x1)"} {
			if !impl.IsRule(ruleOf(parsed(t, text), []node{constant(5)}, side)) {
				t.Error("no rule", text, side)
			}
		}
	}
	if !impl.IsRule(ruleOf(chain(24), chain(24), "any")) {
		t.Error("no rule of trees with MaxNodes nodes")
	}
	for _, r := range invalidRules(t) {
		if impl.IsRule(r) {
			t.Error("a rule", r)
		}
	}
}

func TestPromise4FitsSide(t *testing.T) {
	for _, side := range sides {
		words := sideWords(side)
		for word := -2; word < 70; word++ {
			told, ok := impl.FitsSide(side, word)
			if ok != (word >= 0 && word < 64) || told != slices.Contains(words, word) {
				t.Error(side, word, told, ok)
			}
		}
	}
	for _, side := range []string{"", "Any", "odd ", "smal", "even", "one", "\xff"} {
		for _, word := range extremes {
			if told, ok := impl.FitsSide(side, word); told || ok {
				t.Error("no Side", side, word, told, ok)
			}
		}
	}
}

func TestPromise4CostOfExpr(t *testing.T) {
	for _, c := range []struct {
		text string
		cost int
	}{
		{"x0", 0}, {"63", 0}, {"not(x1)", 1}, {"neg(1)", 1}, {"mul(x0,2)", 4}, {"shl(x0,1)", 2}, {"shr(x0,x1)", 2},
		{"add(1,2)", 1}, {"sub(1,2)", 1}, {"and(1,2)", 1}, {"or(1,2)", 1}, {"xor(1,2)", 1}, {"less(1,2)", 1}, {"eq(1,2)", 1},
		{"add(mul(x0,1),neg(sub(x1,0)))", 7}, {"mul(mul(x0,x1),shl(1,shr(2,3)))", 12},
	} {
		if n, ok := impl.CostOfExpr(parsed(t, c.text)); !ok || n != c.cost {
			t.Error(c.text, n, ok)
		}
	}
	// A node that is used twice costs once.
	for _, c := range []struct {
		e    []node
		cost int
	}{{doubling(24), 23}, {[]node{in(0), two("mul", 0, 0), two("mul", 1, 1), two("shl", 2, 2)}, 10}} {
		if n, ok := impl.CostOfExpr(c.e); !ok || n != c.cost {
			t.Error(c.e, n, ok)
		}
	}
	d := dice(41)
	for range 300 {
		e := d.expr(24)
		if n, ok := impl.CostOfExpr(e); !ok || n != costByHand(e) {
			t.Error(e, n, ok)
		}
	}
}

func TestPromise4IsFalling(t *testing.T) {
	for _, text := range []string{
		"mul(x0,1)->x0/any", "mul(x0,x0)->shl(x0,1)/any", "sub(x0,x0)->0/any", "add(x0,x1)->x1/odd", "add(1,2)->3/any",
		// A To with more nodes than From may still cost less.
		"mul(x0,5)->add(add(add(x0,1),1),1)/any", "mul(x0,x1)->sub(x1,x0)/small", "shl(x0,x0)->add(x0,x0)/any",
	} {
		if falling, ok := impl.IsFalling(parsedRule(t, text)); !ok || !falling {
			t.Error("not falling", text, falling, ok)
		}
	}
	for _, text := range []string{
		"add(x0,x1)->sub(x0,x1)/any", "shl(x0,1)->add(x0,x0)/any", "mul(x0,2)->add(x0,x0)/any", "mul(x0,x1)->add(x1,x1)/const",
		"shl(x0,1)->mul(x0,2)/any", "neg(x0)->add(1,not(x0))/any", "not(x0)->not(x0)/any", "mul(x0,x0)->shl(shl(x0,1),1)/any",
		"mul(add(x0,x0),x1)->add(x1,add(x1,x0))/any",
	} {
		if falling, ok := impl.IsFalling(parsedRule(t, text)); !ok || falling {
			t.Error("falling", text, falling, ok)
		}
	}
	d := dice(42)
	counts := map[bool]int{}
	for range 2000 {
		r := d.rule(t)
		falling, ok := impl.IsFalling(r)
		if !ok || falling != fallsByHand(r) {
			t.Error("falling", r, falling, ok)
		}
		counts[falling]++
	}
	if counts[true] < 200 || counts[false] < 200 {
		t.Error("counts", counts)
	}
}

func TestPromise4RefutedByTwoWords(t *testing.T) {
	for _, c := range []struct {
		text  string
		x0    int
		x1    int
		count int
	}{
		{"shr(shl(x0,1),1)->x0/any", 32, 0, 32 * 64},
		{"add(x0,1)->x0/any", 0, 0, 4096},
		{"add(1,2)->4/any", 0, 0, 4096},
		// Of words that the Side does not tell, none refuses.
		{"and(x1,1)->0/odd", 0, 1, 64 * 32},
		{"eq(x1,32)->0/power", 0, 32, 64},
		{"less(x1,5)->1/small", 0, 5, 64},
		{"eq(x1,0)->0/const", 0, 0, 64},
		{"eq(x1,63)->0/any", 0, 63, 64},
		{"eq(add(x0,x1),10)->0/small", 5, 5, 5},
		{"eq(x0,63)->0/any", 63, 0, 64},
		{"eq(and(x0,x1),63)->0/any", 63, 63, 1},
		{"eq(add(x1,x1),2)->eq(x1,1)/odd", 0, 33, 64},
	} {
		r := parsedRule(t, c.text)
		x0, x1, ok := impl.RefuteRule(r)
		if !ok || x0 != c.x0 || x1 != c.x1 {
			t.Error(c.text, "refused by", x0, x1, ok)
		}
		if n, ok := impl.CountRefuting(r); !ok || n != c.count {
			t.Error(c.text, "refused by pairs", n, ok)
		}
		if holds, ok := impl.ProveRule(r); !ok || holds {
			t.Error(c.text, "holds", holds, ok)
		}
	}
}

func checkHolds(t *testing.T, r rule) {
	t.Helper()
	holds, ok := impl.ProveRule(r)
	n, fine := impl.CountRefuting(r)
	if !ok || !holds || !fine || n != 0 {
		t.Error("proved", r, holds, ok, n, fine)
	}
	if x0, x1, ok := impl.RefuteRule(r); ok || x0 != 0 || x1 != 0 {
		t.Error("refused", r, x0, x1, ok)
	}
}

func TestPromise4RulesHoldForTheirSideAlone(t *testing.T) {
	for _, c := range []struct{ text, side string }{
		{"and(mul(x0,x1),1)->and(x0,1)", "odd"},
		{"mul(x1,32)->32", "odd"},
		{"and(x1,sub(x1,1))->0", "power"},
		{"less(sub(x1,1),5)->1", "small"},
		{"shr(shl(1,x1),x1)->1", "small"},
		{"eq(x1,0)->0", "small"},
	} {
		checkHolds(t, parsedRule(t, c.text+"/"+c.side))
		for _, side := range sides {
			r := parsedRule(t, c.text+"/"+side)
			if holds, ok := impl.ProveRule(r); !ok || holds != (len(refutedByHand(r)) == 0) {
				t.Error(c.text, side, holds, ok)
			}
		}
		if holds, ok := impl.ProveRule(parsedRule(t, c.text+"/any")); !ok || holds {
			t.Error(c.text, "holds for any", holds, ok)
		}
	}
	for _, text := range []string{"sub(x0,x0)->0/any", "add(1,2)->3/any", "add(60,6)->2/any", "add(x0,x1)->add(x1,x0)/any", "mul(x0,2)->add(x0,x0)/any"} {
		checkHolds(t, parsedRule(t, text))
	}
}

// TestPromise4RandomRulesHoldOrAreRefuted holds rules against the values of both sides for all words that the Side tells.
func TestPromise4RandomRulesHoldOrAreRefuted(t *testing.T) {
	d := dice(43)
	held := 0
	for range 150 {
		r := d.rule(t)
		refuted := refutedByHand(r)
		n, ok := impl.CountRefuting(r)
		if !ok || n != len(refuted) {
			t.Error("pairs", r, n, ok)
		}
		if len(refuted) == 0 {
			held++
			checkHolds(t, r)
			continue
		}
		x0, x1, ok := impl.RefuteRule(r)
		if !ok || !sameNumbers([]int{x0, x1}, refuted[0]) {
			t.Error("refused", r, x0, x1, ok)
		}
		if holds, ok := impl.ProveRule(r); !ok || holds {
			t.Error("proved", r, holds, ok)
		}
	}
	if held == 0 {
		t.Error("no rule held")
	}
}

func TestPromise4CommonRules(t *testing.T) {
	rules := impl.CommonRules()
	var texts []string
	for _, r := range rules {
		text, ok := impl.RuleText(r)
		falling, fine := impl.IsFalling(r)
		if !ok || !fine || !falling {
			t.Error("rule", r, ok, fine, falling)
		}
		checkHolds(t, r)
		texts = append(texts, strings.TrimSuffix(text, "/any"))
	}
	if !slices.Equal(texts, commonTexts) {
		t.Error("common rules", texts)
	}
}

func TestPromise4RuleTexts(t *testing.T) {
	for _, c := range []struct {
		text string
		want rule
	}{
		{"not(x0)->x0/any", ruleOf([]node{in(0), one("not", 0)}, []node{in(0)}, "any")},
		{"sub(x1,x1)->0/odd", ruleOf([]node{in(1), in(1), two("sub", 0, 1)}, []node{constant(0)}, "odd")},
		{"add(63,x1)->sub(x1,1)/const", ruleOf([]node{constant(63), in(1), two("add", 0, 1)}, []node{in(1), constant(1), two("sub", 0, 1)}, "const")},
		{"add(1,2)->neg(61)/any", ruleOf([]node{constant(1), constant(2), two("add", 0, 1)}, []node{constant(61), one("neg", 0)}, "any")},
		{"shl(x0,x1)->x1/small", ruleOf([]node{in(0), in(1), two("shl", 0, 1)}, []node{in(1)}, "small")},
		{"mul(x0,x1)->x0/power", ruleOf([]node{in(0), in(1), two("mul", 0, 1)}, []node{in(0)}, "power")},
	} {
		r, ok := impl.ParseRule(c.text)
		if !ok || !sameRule(r, c.want) {
			t.Error("parsed", c.text, r, ok)
		}
		if text, ok := impl.RuleText(c.want); !ok || text != c.text {
			t.Error("text", c.want, text, ok)
		}
	}
	long := ruleOf(chain(24), chain(24), "any")
	text, ok := impl.RuleText(long)
	if r, fine := impl.ParseRule(text); !ok || !fine || !sameRule(r, long) {
		t.Error("long", text, ok, fine)
	}
}

func TestPromise4NoRuleTexts(t *testing.T) {
	for _, s := range []string{
		"", "->", "/", "->/", "any", "not(x0)", "not(x0)->x0", "not(x0)->x0/", "not(x0)/any", "not(x0)->/any", "->x0/any",
		"not(x0)-x0/any", "not(x0)>x0/any", "not(x0)>-x0/any", "not(x0)->->x0/any", "not(x0)->x0->x0/any", "not(x0)->x0//any",
		"not(x0)->x0/any/", "not(x0)->x0/any/any", "not(x0)->x0/any ", " not(x0)->x0/any", "not(x0) ->x0/any", "not(x0)-> x0/any",
		"not(x0)->x0 /any", "not(x0)->x0/ any", "not(x0)->x0/any\n", "not(x0)->x0/Any", "not(x0)->x0/anyany", "not(x0)->x0/any->x0/any",
		"x0->x0/any", "1->1/any", "x1->1/odd", "not(x0)->x1/any", "not(x1)->x0/any", "not(1)->x0/any", "not(x0)->x0/odd", "not(x0)->x0/const",
		"not(x2)->x2/any", "not(x0)->64/any", "not(x0)->00/any", "not(x0)->-1/any", "add(x0)->x0/any", "not(x0,x0)->x0/any", "not(x0->x0/any",
		"not(x0))->x0/any", "(x0)->x0/any", "\xff->x0/any", "not(x0)->x0/\xff", "not(x0)\x00->x0/any",
		strings.Repeat("not(", 24) + "x0" + strings.Repeat(")", 24) + "->x0/any",
		"not(x0)->" + strings.Repeat("not(", 24) + "x0" + strings.Repeat(")", 24) + "/any",
		"not(x0)->x0/any" + strings.Repeat(" ", 385), "not(x0)->x0/any" + strings.Repeat(" ", 386), strings.Repeat("not(", 1000),
	} {
		if r, ok := impl.ParseRule(s); ok || !isZeroRule(r) {
			t.Errorf("ParseRule(%q) returns %v", s, r)
		}
	}
	for _, r := range invalidRules(t) {
		if text, ok := impl.RuleText(r); ok || text != "" {
			t.Error("text", r, text)
		}
	}
}

// TestPromise4TextsAreThoseOfOneRule takes texts apart and puts them together again, broken ones too.
func TestPromise4TextsAreThoseOfOneRule(t *testing.T) {
	d := dice(44)
	for range 1500 {
		r := d.rule(t)
		text, ok := impl.RuleText(r)
		if want := rootText(r.From) + "->" + rootText(r.To) + "/" + r.Side; !ok || text != want || !impl.IsRule(r) {
			t.Fatal("text", r, text, ok)
		}
		for _, s := range d.brokenTexts(text, "x01(),->/any") {
			q, ok := impl.ParseRule(s)
			if again, fine := impl.RuleText(q); ok != fine || ok && again != s || !ok && !isZeroRule(q) {
				t.Fatal("broken", s, fmt.Sprint(q), ok, again)
			}
		}
	}
}
