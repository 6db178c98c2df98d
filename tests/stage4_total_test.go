package tests

import (
	"fmt"
	"slices"
	"testing"

	"loop.example/g01127/impl"
)

// ruleCalls has a call of each function of chapter 4 that takes one rule; its results are what it returns.
func ruleCalls(r rule, e []node, i int) map[string][]any {
	calls := map[string][]any{}
	keep := func(name string, results ...any) { calls[name] = results }
	is, ok := impl.IsFalling(r)
	keep("IsFalling", is, ok)
	is, ok = impl.ProveRule(r)
	keep("ProveRule", is, ok)
	x0, x1, ok := impl.RefuteRule(r)
	keep("RefuteRule", x0, x1, ok)
	n, ok := impl.CountRefuting(r)
	keep("CountRefuting", n, ok)
	text, ok := impl.RuleText(r)
	keep("RuleText", text, ok)
	for name, results := range placeCalls(r, e, i) {
		calls[name] = results
	}
	return calls
}

// placeCalls has those that also take a tree.
func placeCalls(r rule, e []node, i int) map[string][]any {
	calls := map[string][]any{}
	keep := func(name string, results ...any) { calls[name] = results }
	x0, x1, ok := impl.MatchAt(r, e, i)
	keep("MatchAt", x0, x1, ok)
	list, ok := impl.PlacesOf(r, e)
	keep("PlacesOf", list, ok)
	f, ok := impl.RewriteAt(r, e, i)
	keep("RewriteAt", f, ok)
	return calls
}

// rulesCalls has a call of each function of chapter 4 that takes several rules.
func rulesCalls(rules []rule, e []node) map[string][]any {
	calls := map[string][]any{}
	keep := func(name string, results ...any) { calls[name] = results }
	f, k, i, ok := impl.RewriteOnce(rules, e)
	keep("RewriteOnce", f, k, i, ok)
	run, ok := impl.RewriteRun(rules, e)
	keep("RewriteRun", run, ok)
	f, ok = impl.NormalForm(rules, e)
	keep("NormalForm", f, ok)
	return calls
}

// noTrees returns lists of nodes that are no trees, expressions among them.
func noTrees() [][]node {
	return append(invalidExprs(), doubling(2), doubling(24), []node{in(0), one("not", 0), two("add", 0, 1)}, []node{in(0), in(1), two("sub", 0, 1), two("mul", 2, 2)})
}

func TestPromise11InvalidRules(t *testing.T) {
	good := parsedRule(t, "add(x0,0)->x0/any")
	e := parsed(t, "not(add(x0,0))")
	for _, r := range invalidRules(t) {
		before := fmt.Sprint(r)
		for i := range 4 {
			checkFailed(t, ruleCalls(r, e, i), false, r)
		}
		for _, rules := range [][]rule{{r}, {r, good}, {good, r}} {
			checkFailed(t, rulesCalls(rules, e), false, r)
		}
		if after := fmt.Sprint(r); after != before {
			t.Error("changed", before, after)
		}
	}
}

func TestPromise11RulesThatDoNotFall(t *testing.T) {
	good := parsedRule(t, "add(x0,0)->x0/any")
	e := parsed(t, "not(add(x0,0))")
	for _, text := range []string{"sub(x0,x1)->sub(x1,x0)/any", "shl(x0,1)->add(x0,x0)/any", "neg(x0)->mul(x0,63)/any"} {
		r := parsedRule(t, text)
		for _, rules := range [][]rule{{r}, {r, good}, {good, r}} {
			checkFailed(t, rulesCalls(rules, e), false, text)
		}
		// A single rule need not be falling.
		if _, ok := impl.PlacesOf(r, e); !ok {
			t.Error("places", text)
		}
	}
	if f, ok := impl.RewriteAt(parsedRule(t, "sub(x0,x1)->sub(x1,x0)/any"), parsed(t, "sub(x0,1)"), 2); !ok || !sameList(f, parsed(t, "sub(1,x0)")) {
		t.Error("rewritten", f, ok)
	}
}

func TestPromise11NoTreesForRules(t *testing.T) {
	r := parsedRule(t, "add(x0,x1)->x0/any")
	for _, e := range noTrees() {
		before := copyOf(e)
		for _, i := range []int{0, 1, 2, -1, 24} {
			checkFailed(t, placeCalls(r, e, i), false, e)
		}
		for _, rules := range [][]rule{nil, {r}, impl.CommonRules()} {
			checkFailed(t, rulesCalls(rules, e), false, e)
		}
		if !sameList(e, before) {
			t.Error("changed", before, e)
		}
	}
	for _, e := range invalidExprs() {
		if n, ok := impl.CostOfExpr(e); ok || n != 0 {
			t.Error("cost", e, n, ok)
		}
	}
}

// TestPromise11RulesOfRandomNodes has rules of all sorts, most of them no rules, and numbers of all sizes.
func TestPromise11RulesOfRandomNodes(t *testing.T) {
	d := dice(48)
	ops := append([]string{"", "in", "const", "other"}, append(slices.Clone(oneOperand), twoOperands...)...)
	number := func() int {
		if d.below(8) == 0 {
			return extremes[d.below(len(extremes))]
		}
		return d.below(3)
	}
	nodes := func() []node {
		e := make([]node, d.below(4))
		for i := range e {
			e[i] = node{Op: ops[d.below(len(ops))], A: number(), B: number(), Value: d.below(2) * number()}
		}
		return e
	}
	valid := 0
	for range 3000 {
		r := ruleOf(nodes(), nodes(), append(sides, "", "other")[d.below(7)])
		e, i := nodes(), number()
		if d.below(3) > 0 {
			r = d.brokenRule(t)
			e = d.host(t, d.rule(t))
		}
		before := fmt.Sprint(r, e)
		isRule := impl.IsRule(r)
		tree, _ := impl.IsTree(e)
		if isRule {
			valid++
		}
		checkFailed(t, ruleCalls(r, e, i), isRule, r)
		checkFailed(t, placeCalls(r, e, i), isRule && tree, r)
		checkFailed(t, rulesCalls([]rule{r}, e), isRule && tree, r)
		if after := fmt.Sprint(r, e); after != before {
			t.Error("changed", before, after)
		}
	}
	if valid < 200 || valid > 1800 {
		t.Error("rules", valid)
	}
}

// brokenRule returns a rule with other numbers or another op in one of its nodes, which it may bear.
func (d *dice) brokenRule(t *testing.T) rule {
	t.Helper()
	r := d.rule(t)
	e := r.From
	if d.below(2) == 0 {
		e = r.To
	}
	n := &e[d.below(len(e))]
	switch d.below(5) {
	case 0:
		n.Op = append(twoOperands, "not", "in", "const", "")[d.below(14)]
	case 1:
		n.A = extremes[d.below(len(extremes))]
	case 2:
		n.B = d.below(3) - 1
	case 3:
		n.Value = d.below(3)
	}
	return r
}

func TestPromise11ExtremeNodesForRules(t *testing.T) {
	for _, r := range parsedRules(t, "not(x0)->x0/any", "add(x0,x1)->x1/small") {
		for _, e := range [][]node{{in(0)}, {constant(0)}, chain(24), parsed(t, "add(x0,3)")} {
			for _, i := range extremes {
				checkFailed(t, ruleCalls(r, e, i), true, e)
				if i < 0 || i >= len(e) {
					x0, x1, ok := impl.MatchAt(r, e, i)
					checkZero(t, "MatchAt", []any{x0, x1, ok}, i)
					f, ok := impl.RewriteAt(r, e, i)
					checkZero(t, "RewriteAt", []any{f, ok}, i)
				}
			}
		}
	}
}

func overwriteRules(rules []rule) {
	for i := range rules {
		overwrite([]any{rules[i].From, rules[i].To})
		rules[i] = rule{}
	}
	_ = append(rules, ruleOf(nil, nil, "behind"))
}

// TestPromise11RulesStay has room behind the nodes and the rules, and overwrites and grows every result.
func TestPromise11RulesStay(t *testing.T) {
	behind := []node{{Op: "behind", A: 7}, {Op: "behind", B: 8}}
	for _, text := range []string{"add(mul(x0,1),neg(sub(x1,0)))", "x0", "5", "add(add(x0,0),add(1,0))", "not(not(not(x0)))"} {
		e := append(parsed(t, text), behind...)
		n := len(e) - 2
		r := parsedRule(t, "add(x0,x1)->x1/any")
		from, to := append(copyOf(r.From), behind...), append(copyOf(r.To), behind...)
		rules := append(impl.CommonRules(), ruleOf(from[:3], to[:1], "odd"), ruleOf(behind, behind, "behind"))
		before := fmt.Sprint(e, from, to, rules)
		call := func() []map[string][]any {
			return []map[string][]any{ruleCalls(ruleOf(from[:3], to[:1], "any"), e[:n], n-1), rulesCalls(rules[:20], e[:n]), rulesCalls(nil, e[:n])}
		}
		first := fmt.Sprint(call())
		for _, calls := range call() {
			for name, results := range calls {
				overwrite(results)
				if run, ok := results[0].([]string); ok {
					clear(run)
					_ = append(run, "behind")
				}
				if after := fmt.Sprint(e, from, to, rules); after != before {
					t.Fatal("changed by", name, before, after)
				}
			}
		}
		if again := fmt.Sprint(call()); again != first {
			t.Error("other results", first, again)
		}
	}
}

// TestPromise11RulesShareNothing overwrites rules that are returned, From and To one after the other.
func TestPromise11RulesShareNothing(t *testing.T) {
	rules := impl.CommonRules()
	first := fmt.Sprint(rules)
	overwrite([]any{rules[0].From})
	if !sameList(rules[0].To, []node{in(0)}) || fmt.Sprint(rules[1:]) != fmt.Sprint(impl.CommonRules()[1:]) {
		t.Error("shared", rules)
	}
	overwriteRules(rules)
	if again := fmt.Sprint(impl.CommonRules()); again != first {
		t.Error("other rules", again)
	}
	r := parsedRule(t, "sub(x0,x0)->x0/any")
	overwrite([]any{append(r.From[:0:3], in(1), in(1), in(1))})
	if !sameList(r.To, []node{in(0)}) || !sameRule(parsedRule(t, "sub(x0,x0)->x0/any"), ruleOf(parsed(t, "sub(x0,x0)"), parsed(t, "x0"), "any")) {
		t.Error("shared", r)
	}
}
