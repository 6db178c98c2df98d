package tests

import (
	"math"
	"slices"
	"testing"

	"loop.example/g01127/impl"
)

// checkMatch wants the nodes for which the holes stand, or no match if stands is nil.
func checkMatch(t *testing.T, r rule, e []node, i int, stands []int) {
	t.Helper()
	x0, x1, ok := impl.MatchAt(r, e, i)
	if stands == nil {
		stands = []int{0, 0}
		if ok {
			t.Error("matches", r, e, i, x0, x1)
		}
	} else if !ok {
		t.Error("does not match", r, e, i)
	}
	if x0 != stands[0] || x1 != stands[1] {
		t.Error("stands for", r, e, i, x0, x1)
	}
}

func TestPromise4MatchAt(t *testing.T) {
	for _, c := range []struct {
		rule   string
		tree   string
		i      int
		stands []int
	}{
		// Without a hole, with one and with both.
		{"add(1,2)->3/any", "add(1,2)", 2, []int{-1, -1}},
		{"add(1,2)->3/any", "add(2,1)", 2, nil},
		{"add(1,2)->3/any", "add(1,x1)", 2, nil},
		{"not(x0)->x0/any", "not(7)", 1, []int{0, -1}},
		{"not(x1)->x1/any", "not(7)", 1, []int{-1, 0}},
		{"not(x1)->x1/any", "not(not(x0))", 2, []int{-1, 1}},
		{"sub(x0,x1)->x0/any", "sub(x1,x0)", 2, []int{0, 1}},
		{"sub(x1,x0)->x0/any", "sub(x1,x0)", 2, []int{1, 0}},
		{"add(x0,neg(x1))->sub(x0,x1)/any", "add(mul(x0,1),neg(sub(x1,0)))", 7, []int{2, 5}},
		// At a leaf no rule matches, nor does one at a node with another op or with fewer operands.
		{"not(x0)->x0/any", "not(x0)", 0, nil},
		{"not(x0)->x0/any", "neg(x0)", 1, nil},
		{"not(x0)->x0/any", "add(x0,x0)", 2, nil},
		{"add(x0,x1)->x0/any", "not(x0)", 1, nil},
		{"not(neg(x0))->x0/any", "not(x0)", 1, nil},
		// A hole that occurs twice.
		{"sub(x0,x0)->0/any", "sub(x1,x1)", 2, []int{0, -1}},
		{"sub(x0,x0)->0/any", "sub(x0,x1)", 2, nil},
		{"sub(x0,x0)->0/any", "sub(3,3)", 2, []int{0, -1}},
		{"sub(x0,x0)->0/any", "sub(3,4)", 2, nil},
		{"sub(x0,x0)->0/any", "sub(1,x1)", 2, nil},
		{"sub(x0,x0)->0/any", "sub(not(x0),neg(x0))", 4, nil},
		{"sub(x0,x0)->0/any", "sub(add(x0,1),add(x0,1))", 6, []int{2, -1}},
		{"sub(x0,x0)->0/any", "sub(add(x0,1),add(1,x0))", 6, nil},
		{"sub(x0,x0)->0/any", "sub(add(x0,1),add(x0,2))", 6, nil},
		{"or(add(x0,x1),add(x1,x0))->x0/any", "or(add(5,not(x1)),add(not(x1),5))", 8, []int{0, 2}},
		{"or(add(x0,x1),add(x1,x0))->x0/any", "or(add(5,not(x1)),add(not(x0),5))", 8, nil},
		{"or(add(x0,x1),add(x1,x0))->x0/any", "or(add(5,5),add(5,5))", 6, []int{0, 1}},
		// Different holes may stand for the same.
		{"add(x0,x1)->x0/any", "add(2,2)", 2, []int{0, 1}},
		// The numbers of inputs of the tree do not matter to holes, and constants are no inputs.
		{"add(x0,0)->x0/any", "add(x1,x0)", 2, nil},
		{"add(x0,1)->x0/any", "add(x0,x1)", 2, nil},
		{"add(x0,0)->x0/any", "add(0,0)", 2, []int{0, -1}},
		{"not(x0)->x0/any", "add(not(x1),2)", 1, []int{0, -1}},
		{"not(x0)->x0/any", "add(not(x1),2)", 3, nil},
	} {
		checkMatch(t, parsedRule(t, c.rule), parsed(t, c.tree), c.i, c.stands)
	}
}

// TestPromise4SidesAtPlaces has constants that a Side just tells and just does not tell, and no constants.
func TestPromise4SidesAtPlaces(t *testing.T) {
	for _, side := range sides {
		r := parsedRule(t, "shl(x0,x1)->add(x0,x1)/"+side)
		twice := parsedRule(t, "sub(x1,mul(x1,x0))->x1/"+side)
		for word := range 64 {
			var stands, both []int
			if slices.Contains(sideWords(side), word) {
				stands, both = []int{0, 1}, []int{2, 0}
			}
			checkMatch(t, r, []node{in(1), constant(word), two("shl", 0, 1)}, 2, stands)
			checkMatch(t, twice, []node{constant(word), constant(word), in(0), two("mul", 1, 2), two("sub", 0, 3)}, 4, both)
		}
		for _, text := range []string{"shl(1,x0)", "shl(1,x1)", "shl(2,not(1))", "shl(1,add(1,1))", "shl(1,mul(1,1))"} {
			e := parsed(t, text)
			var stands []int
			if side == "any" {
				stands = []int{0, len(e) - 2}
			}
			checkMatch(t, r, e, len(e)-1, stands)
			if _, ok := impl.RewriteAt(r, e, len(e)-1); ok != (side == "any") {
				t.Error("rewritten", side, text, ok)
			}
		}
		// The hole x0 may stand for anything, whatever the Side is.
		checkMatch(t, r, parsed(t, "shl(not(x0),1)"), 3, []int{1, 2})
	}
}

// TestPromise4OtherOrders has the same subtrees at other places of their nodes.
func TestPromise4OtherOrders(t *testing.T) {
	e := []node{in(1), in(0), in(0), in(1), two("sub", 2, 0), two("sub", 1, 3), two("xor", 5, 4)}
	checkMatch(t, parsedRule(t, "xor(x0,x0)->0/any"), e, 6, []int{5, -1})
	checkMatch(t, parsedRule(t, "xor(x1,x1)->0/any"), e, 6, []int{-1, 5})
	checkMatch(t, parsedRule(t, "xor(sub(x0,x1),sub(x0,x1))->0/any"), e, 6, []int{1, 3})
	checkMatch(t, parsedRule(t, "xor(sub(x1,x0),sub(x1,x0))->0/any"), e, 6, []int{3, 1})
	checkMatch(t, parsedRule(t, "xor(sub(x0,x1),sub(x1,x0))->0/any"), e, 6, nil)
	places, ok := impl.PlacesOf(parsedRule(t, "sub(x0,x1)->x1/any"), e)
	if !ok || !sameNumbers(places, []int{4, 5}) {
		t.Error("places", places, ok)
	}
	// The result is in the order of the walk, also of what is left as it was.
	for i, want := range map[int]string{4: "xor(sub(x0,x1),x1)", 5: "xor(x1,sub(x0,x1))"} {
		f, ok := impl.RewriteAt(parsedRule(t, "sub(x0,x1)->x1/any"), e, i)
		if !ok || !sameList(f, parsed(t, want)) {
			t.Error("rewritten", i, f, ok)
		}
	}
}

func TestPromise4PlacesOf(t *testing.T) {
	for _, c := range []struct {
		rule   string
		tree   string
		places []int
	}{
		{"not(x0)->x0/any", "x0", nil},
		{"not(x0)->x0/any", "63", nil},
		{"not(x0)->x0/any", "neg(x0)", nil},
		{"not(x0)->x0/any", "not(not(not(x0)))", []int{1, 2, 3}},
		{"not(not(x0))->x0/any", "not(not(not(x0)))", []int{2, 3}},
		{"add(x0,0)->x0/any", "add(add(x1,0),add(0,add(0,0)))", []int{2, 6}},
		{"add(x0,x1)->x0/power", "add(add(add(x0,1),3),add(4,x1))", []int{2}},
		{"add(1,2)->3/any", "mul(add(1,2),add(1,2))", []int{2, 5}},
	} {
		places, ok := impl.PlacesOf(parsedRule(t, c.rule), parsed(t, c.tree))
		if !ok || !sameNumbers(places, c.places) {
			t.Error(c.rule, c.tree, places, ok)
		}
	}
}

func TestPromise4RewriteAt(t *testing.T) {
	for _, c := range []struct {
		rule string
		tree string
		i    int
		want string
	}{
		{"sub(x0,x0)->0/any", "add(sub(not(x1),not(x1)),x0)", 4, "add(0,x0)"},
		{"add(1,2)->3/any", "neg(add(1,2))", 2, "neg(3)"},
		{"sub(x0,x1)->sub(x1,x0)/any", "sub(x0,not(x1))", 3, "sub(not(x1),x0)"},
		{"sub(x0,x1)->sub(x1,x1)/any", "sub(x0,not(5))", 3, "sub(not(5),not(5))"},
		{"sub(x0,x1)->mul(x0,mul(x1,x0))/small", "less(sub(neg(x1),5),6)", 3, "less(mul(neg(x1),mul(5,neg(x1))),6)"},
		// The subtrees of holes are not looked through for holes again.
		{"sub(x0,x1)->xor(x1,x0)/any", "sub(x1,x0)", 2, "xor(x0,x1)"},
		{"not(not(x0))->x0/any", "not(not(not(not(x0))))", 3, "not(not(x0))"},
		{"not(x0)->not(not(x0))/any", "not(not(x1))", 1, "not(not(not(x1)))"},
		{"neg(x1)->add(not(x1),1)/any", "mul(neg(x0),neg(9))", 1, "mul(add(not(x0),1),neg(9))"},
		{"mul(x0,2)->shl(x0,1)/any", "mul(2,2)", 2, "shl(2,1)"},
	} {
		f, ok := impl.RewriteAt(parsedRule(t, c.rule), parsed(t, c.tree), c.i)
		if !ok || !sameList(f, parsed(t, c.want)) {
			t.Error(c.rule, c.tree, f, ok)
		}
	}
}

func TestPromise4ResultsMeetTheLimit(t *testing.T) {
	double := parsedRule(t, "neg(x0)->add(x0,x0)/any")
	for n, want := range map[int]bool{9: true, 10: true, 11: false, 12: false, 21: false} {
		// The result has n + 1 nodes for each x0, the sum, and not of it.
		e := parsed(t, "not(neg("+nested(n, "x1")+"))")
		f, ok := impl.RewriteAt(double, e, len(e)-2)
		if ok != want || ok && !sameList(f, parsed(t, "not(add("+nested(n, "x1")+","+nested(n, "x1")+"))")) || !ok && len(f) != 0 {
			t.Error("limit", n, f, ok)
		}
		checkMatch(t, double, e, len(e)-2, []int{len(e) - 3, -1})
	}
	longer := parsedRule(t, "neg(x0)->not(not(x0))/any")
	for n, want := range map[int]bool{21: true, 22: false} {
		e := parsed(t, nested(n, "neg(x0)"))
		f, ok := impl.RewriteAt(longer, e, 1)
		if ok != want || ok && !sameList(f, chain(24)) || !ok && len(f) != 0 {
			t.Error("limit", n, f, ok)
		}
	}
	// From, To and the tree may all have MaxNodes nodes.
	if f, ok := impl.RewriteAt(ruleOf(chain(24), chain(24), "any"), chain(24), 23); !ok || !sameList(f, chain(24)) {
		t.Error("all", f, ok)
	}
	// The same constant 23 times does not fit for both of the others.
	wide := ruleOf(parsed(t, "add(x0,x0)"), parsed(t, "mul("+nested(10, "x0")+","+nested(10, "x0")+")"), "any")
	if f, ok := impl.RewriteAt(wide, parsed(t, "add(1,1)"), 2); !ok || len(f) != 23 {
		t.Error("wide", f, ok)
	}
	if f, ok := impl.RewriteAt(wide, parsed(t, "add(not(1),not(1))"), 4); ok || len(f) != 0 {
		t.Error("too wide", f, ok)
	}
}

func TestPromise4RewriteOnce(t *testing.T) {
	for _, c := range []struct {
		rules []string
		tree  string
		want  string
		k, i  int
	}{
		// The first rule counts before the least node, and the least node of several.
		{[]string{"not(x0)->x0/any", "neg(x0)->x0/any"}, "not(neg(x1))", "neg(x1)", 0, 2},
		{[]string{"neg(x0)->x0/any", "not(x0)->x0/any"}, "not(neg(x1))", "not(x1)", 0, 1},
		{[]string{"mul(x0,x1)->x0/any", "neg(x0)->x0/any", "neg(x0)->0/any"}, "add(neg(x0),neg(x1))", "add(x0,neg(x1))", 1, 1},
		{[]string{"not(not(x0))->x0/any"}, "not(not(not(5)))", "not(5)", 0, 2},
		{[]string{"shl(x0,x1)->add(x0,x1)/odd", "shl(x0,x1)->0/const"}, "shl(shl(x0,2),3)", "add(shl(x0,2),3)", 0, 4},
		{[]string{"shl(x0,x1)->add(x0,x1)/odd", "shl(x0,x1)->0/const"}, "shl(shl(x0,2),4)", "shl(0,4)", 1, 2},
		{[]string{"add(1,2)->3/any", "add(1,2)->3/any"}, "neg(add(1,2))", "neg(3)", 0, 2},
	} {
		f, k, i, ok := impl.RewriteOnce(parsedRules(t, c.rules...), parsed(t, c.tree))
		if !ok || !sameList(f, parsed(t, c.want)) || k != c.k || i != c.i {
			t.Error(c.tree, f, k, i, ok)
		}
	}
	for _, rules := range [][]rule{nil, parsedRules(t, "neg(x0)->x0/any"), impl.CommonRules()} {
		if f, k, i, ok := impl.RewriteOnce(rules, parsed(t, "not(add(x0,x1))")); ok || len(f) != 0 || k != 0 || i != 0 {
			t.Error("rewritten", f, k, i, ok)
		}
	}
}

// TestPromise4RulesThatCannotBeUsed has a falling rule whose result has too many nodes at the one node and fits at the other.
func TestPromise4RulesThatCannotBeUsed(t *testing.T) {
	long := parsedRule(t, "mul(mul(x0,1),1)->"+nested(7, "x0")+"/any")
	other := parsedRule(t, "sub(x0,0)->x0/any")
	// The tree has 21 nodes and may have 3 more, as the result of the rule has.
	e := parsed(t, "sub("+nested(14, "mul(mul(x1,1),1)")+",0)")
	if f, k, i, ok := impl.RewriteOnce([]rule{long, other}, e); !ok || !sameList(f, parsed(t, "sub("+nested(21, "x1")+",0)")) || k != 0 || i != 4 {
		t.Error("just fits", f, k, i, ok)
	}
	e = parsed(t, "sub("+nested(15, "mul(mul(x1,1),1)")+",0)")
	if f, k, i, ok := impl.RewriteOnce([]rule{long, other}, e); !ok || !sameList(f, parsed(t, nested(15, "mul(mul(x1,1),1)"))) || k != 1 || i != 21 {
		t.Error("does not fit", f, k, i, ok)
	}
	if f, k, i, ok := impl.RewriteOnce([]rule{long}, e); ok || len(f) != 0 || k != 0 || i != 0 {
		t.Error("no other", f, k, i, ok)
	}
	// What does not fit at first is used when there is room.
	run, ok := impl.RewriteRun([]rule{long, other}, e)
	if !ok || len(run) != 3 || run[2] != nested(22, "x1") {
		t.Error("run", run, ok)
	}
	// At the least of two nodes the result has 25 nodes, at the root it has 11.
	drop := parsedRule(t, "mul(x0,mul(x1,x1))->"+nested(6, "x1")+"/any")
	e = parsed(t, "mul("+nested(5, "neg(mul(1,mul(x0,x0)))")+",mul("+nested(4, "x1")+","+nested(4, "x1")+"))")
	if f, k, i, ok := impl.RewriteOnce([]rule{drop}, e); !ok || !sameList(f, parsed(t, nested(10, "x1"))) || k != 0 || i != 22 {
		t.Error("greater node", f, k, i, ok)
	}
}

func TestPromise4MaxRules(t *testing.T) {
	e := parsed(t, "not(neg(x0))")
	var rules []rule
	for len(rules) < impl.MaxRules-1 {
		rules = append(rules, parsedRule(t, "sub(x0,x0)->0/any"))
	}
	rules = append(rules, parsedRule(t, "neg(x0)->x0/any"))
	if f, k, i, ok := impl.RewriteOnce(rules, e); len(rules) != 30 || !ok || !sameList(f, parsed(t, "not(x0)")) || k != 29 || i != 1 {
		t.Error("exactly MaxRules", f, k, i, ok)
	}
	if run, ok := impl.RewriteRun(rules, e); !ok || !slices.Equal(run, []string{"not(neg(x0))", "not(x0)"}) {
		t.Error("run", run, ok)
	}
	rules = append(rules, rules[0])
	for name, results := range rulesCalls(rules, e) {
		checkZero(t, name, results, "one rule more")
	}
}

func TestPromise4RewriteRun(t *testing.T) {
	for _, c := range []struct {
		rules []rule
		run   []string
	}{
		{impl.CommonRules(), []string{"add(mul(x0,1),neg(sub(x1,0)))", "add(mul(x0,1),neg(x1))", "add(x0,neg(x1))", "sub(x0,x1)"}},
		{impl.CommonRules(), []string{"add(mul(x0,2),0)", "mul(x0,2)", "shl(x0,1)"}},
		{impl.CommonRules(), []string{"x1"}},
		{impl.CommonRules(), []string{"add(0,x0)"}},
		{impl.CommonRules(), []string{"eq(sub(x0,x0),0)", "eq(0,0)", "1"}},
		{nil, []string{"add(x0,0)"}},
		{parsedRules(t, "not(not(x0))->x0/any"), []string{"not(not(not(not(x0))))", "not(not(x0))", "x0"}},
	} {
		e := parsed(t, c.run[0])
		run, ok := impl.RewriteRun(c.rules, e)
		if !ok || !slices.Equal(run, c.run) {
			t.Error("run", run, ok)
		}
		if f, ok := impl.NormalForm(c.rules, e); !ok || !sameList(f, parsed(t, c.run[len(c.run)-1])) {
			t.Error("normal form", f, ok)
		}
	}
	// A tree in another order is the last one of a run that ends at once, as it is.
	e := []node{in(1), in(0), two("sub", 1, 0)}
	if f, ok := impl.NormalForm(impl.CommonRules(), e); !ok || !sameList(f, e) {
		t.Error("other order", f, ok)
	}
	if run, ok := impl.RewriteRun(impl.CommonRules(), e); !ok || !slices.Equal(run, []string{"sub(x0,x1)"}) {
		t.Error("other order", run, ok)
	}
}

// TestPromise4RandomPlaces holds places, matches and results against texts.
func TestPromise4RandomPlaces(t *testing.T) {
	d := dice(45)
	matched, failed := 0, 0
	for range 3000 {
		r := d.rule(t)
		e := d.host(t, r)
		var places []int
		for i := range e {
			stands := matchByHand(r, e, i)
			checkMatch(t, r, e, i, stands)
			if stands != nil {
				places = append(places, i)
			}
			want := rewrittenByHand(r, e, i)
			f, ok := impl.RewriteAt(r, e, i)
			if ok != (want != "") || ok && !sameList(f, parsed(t, want)) || !ok && len(f) != 0 {
				t.Fatal("rewritten", r, e, i, f, ok)
			}
			if stands != nil && !ok {
				failed++
			}
		}
		if got, ok := impl.PlacesOf(r, e); !ok || !sameNumbers(got, places) {
			t.Fatal("places", r, e, got, ok)
		}
		matched += len(places)
	}
	if matched < 1500 || failed < 5 {
		t.Error("matches", matched, failed)
	}
}

// TestPromise4RandomRuns holds runs by falling rules, which need not hold, against texts.
func TestPromise4RandomRuns(t *testing.T) {
	d := dice(46)
	steps := 0
	for range 400 {
		var rules []rule
		for len(rules) < 1+d.below(8) {
			if r := d.rule(t); fallsByHand(r) {
				rules = append(rules, r)
			}
		}
		e := d.host(t, rules[d.below(len(rules))])
		run, ok := impl.RewriteRun(rules, e)
		last, fine := impl.NormalForm(rules, e)
		if !ok || !fine || len(run) == 0 || run[0] != rootText(e) || run[len(run)-1] != rootText(last) {
			t.Fatal("run", rules, e, run, ok, last)
		}
		for n, text := range run {
			f := e
			if n > 0 {
				f = parsed(t, text)
			}
			want, k, i := onceByHand(rules, f)
			g, rule, place, ok := impl.RewriteOnce(rules, f)
			if n+1 == len(run) {
				if want != "" || ok || len(g) != 0 || rule != 0 || place != 0 {
					t.Fatal("ends early", rules, run, want)
				}
			} else if !ok || want != run[n+1] || !sameList(g, parsed(t, want)) || rule != k || place != i {
				t.Fatal("once", rules, f, g, rule, place, want)
			}
		}
		steps += len(run) - 1
	}
	if steps < 400 {
		t.Error("steps", steps)
	}
}

// TestPromise4RewritingKeepsValues rewrites by rules that hold until none can be used: the values stay and each step costs less.
func TestPromise4RewritingKeepsValues(t *testing.T) {
	rules := append(impl.CommonRules(), parsedRules(t,
		"mul(x0,4)->shl(x0,2)/any", "shl(x0,1)->add(x0,x0)/any", "and(mul(x0,x1),1)->and(x0,1)/odd", "less(x1,6)->1/small", "add(1,2)->3/any")...)
	rules = slices.DeleteFunc(rules, func(r rule) bool { return !fallsByHand(r) })
	d := dice(47)
	steps := 0
	for range 300 {
		e := d.shuffled(parsed(t, d.treeText(5+d.below(16), []string{"x0", "x1", "x0", "0", "1", "2", "4"})))
		run, ok := impl.RewriteRun(rules, e)
		last, fine := impl.NormalForm(rules, e)
		if !ok || !fine {
			t.Fatal("run", e, run, ok)
		}
		checkSameValues(t, "normal form", e, last)
		for n := range run[1:] {
			p, q := parsed(t, run[n]), parsed(t, run[n+1])
			if costByHand(q) >= costByHand(p) {
				t.Error("cost", run[n], run[n+1])
			}
			checkSameValues(t, "rewritten", p, q)
		}
		steps += len(run) - 1
	}
	if steps < 100 {
		t.Error("steps", steps)
	}
}

func TestPromise4NoNodes(t *testing.T) {
	r, e := parsedRule(t, "not(x0)->x0/any"), parsed(t, "not(not(x1))")
	for _, i := range []int{-1, 3, 24, 63, math.MinInt, math.MaxInt} {
		checkMatch(t, r, e, i, nil)
		if f, ok := impl.RewriteAt(r, e, i); ok || len(f) != 0 {
			t.Error("node", i, f, ok)
		}
	}
}
