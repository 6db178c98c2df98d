package tests

import (
	"regexp"
	"strconv"
	"strings"
	"testing"

	"loop.example/g01127/impl"
)

type desk = impl.Desk

func deskOf(e []node, code []instr) desk { return desk{Expr: e, Code: code} }

func copyOfDesk(d desk) desk { return deskOf(copyOf(d.Expr), copyOfCode(d.Code)) }

func sameDesk(a desk, b desk) bool { return sameList(a.Expr, b.Expr) && sameCode(a.Code, b.Code) }

// scriptOf returns the script with these lines.
func scriptOf(lines ...string) string {
	var script strings.Builder
	for _, line := range lines {
		script.WriteString(line + "\n")
	}
	return script.String()
}

// toldLine is a row of the document's table: the shape of a line, and what it does with its words, texts before numbers.
type toldLine struct {
	shape string
	reply func(d *desk, text string, n []int) string
}

// toldLines has a call for each line; N is a number and T all bytes behind.
func toldLines() []toldLine {
	return append([]toldLine{
		{"fold", func(d *desk, _ string, _ []int) string {
			d.Expr, _ = impl.FoldExpr(d.Expr)
			return rootText(d.Expr)
		}},
		{"normal", func(d *desk, _ string, _ []int) string {
			d.Expr, _ = impl.NormalForm(impl.CommonRules(), d.Expr)
			return rootText(d.Expr)
		}},
		{"text", func(d *desk, _ string, _ []int) string { return rootText(d.Expr) }},
		{"value N N", func(d *desk, _ string, n []int) string { return numberOrNo(impl.EvalExpr(d.Expr, n[0], n[1])) }},
		{"cost", func(d *desk, _ string, _ []int) string { return numberOrNo(impl.CostOfExpr(d.Expr)) }},
		{"known", func(d *desk, _ string, _ []int) string {
			k, ok := impl.KnownBits(d.Expr)
			return pairOrNo(k.Zeros, k.Ones, ok)
		}},
		{"range", func(d *desk, _ string, _ []int) string { return pairOrNo(impl.RangeOf(d.Expr)) }},
		{"clear", func(d *desk, _ string, _ []int) string {
			d.Code = nil
			return "ok"
		}},
		{"run N N N", func(d *desk, _ string, n []int) string {
			return numberOrNo(impl.ResultOf(d.Code, n[0], n[1], n[2]))
		}},
		{"price", func(d *desk, _ string, _ []int) string { return numberOrNo(impl.CodeCost(d.Code)) }},
		{"same N", func(d *desk, _ string, n []int) string {
			if same, _ := impl.ComputesExpr(d.Expr, d.Code, n[0]); same {
				return "same"
			}
			return pairOrNo(impl.DifferenceOf(d.Expr, d.Code, n[0]))
		}},
		{"best N", func(d *desk, _ string, n []int) string { return listOrNo(impl.BestSchedule(d.Code, n[0])) }},
		{"order", func(d *desk, _ string, _ []int) string { return listOrNo(impl.LastOrder(d.Code)) }},
	}, textLines()...)
}

// textLines has the lines with a text.
func textLines() []toldLine {
	return []toldLine{
		{"expr T", func(d *desk, text string, _ []int) string {
			e, ok := impl.ParseExpr(text)
			if !ok {
				return "what"
			}
			d.Expr = e
			return "ok"
		}},
		{"rule T", func(_ *desk, text string, _ []int) string {
			r, ok := impl.ParseRule(text)
			if !ok {
				return "what"
			}
			if holds, _ := impl.ProveRule(r); holds {
				return "holds"
			}
			return pairOrNo(impl.RefuteRule(r))
		}},
		{"do T", func(d *desk, text string, _ []int) string {
			x, ok := impl.ParseInstr(text)
			switch {
			case !ok:
				return "what"
			case len(d.Code) == 40:
				return "no"
			}
			d.Code = append(copyOfCode(d.Code), x)
			return "ok"
		}},
	}
}

func numberOrNo(n int, ok bool) string {
	if !ok {
		return "no"
	}
	return strconv.Itoa(n)
}

func pairOrNo(a int, b int, ok bool) string {
	if !ok {
		return "no"
	}
	return strconv.Itoa(a) + " " + strconv.Itoa(b)
}

func listOrNo(list []int, ok bool) string {
	switch {
	case !ok:
		return "no"
	case len(list) == 0:
		return "-"
	}
	return strings.ReplaceAll(numbersText(list), " ", ",")
}

// pattern tells which lines have the shape.
func (told toldLine) pattern() *regexp.Regexp {
	source := strings.NewReplacer("N", "(0|[1-9][0-9]{0,5})", "T", "(.*)").Replace(told.shape)
	return regexp.MustCompile("(?s)^" + source + "$")
}

// lineByHand tells the desk behind a line and its reply by the calls that the line names.
func lineByHand(d desk, line string) (desk, string) {
	for _, told := range toldLines() {
		groups := told.pattern().FindStringSubmatch(line)
		if groups == nil {
			continue
		}
		text, numbers := "", []int{}
		for _, word := range groups[1:] {
			if strings.HasSuffix(told.shape, "T") {
				text = word
			} else {
				n, _ := strconv.Atoi(word)
				numbers = append(numbers, n)
			}
		}
		after := copyOfDesk(d)
		reply := told.reply(&after, text, numbers)
		return after, reply
	}
	return d, "what"
}

// checkLine wants a reply, and the desk that the called functions make; it returns this desk.
func checkLine(t *testing.T, d desk, line string, want string) desk {
	t.Helper()
	before := copyOfDesk(d)
	after, reply, ok := impl.DeskLine(d, line)
	if !ok || reply != want {
		t.Errorf("%q on %q, %q: %q, %v, not %q", line, rootText(d.Expr), codeLines(d.Code), reply, ok, want)
	}
	told, toldReply := lineByHand(d, line)
	if reply != toldReply || !sameDesk(after, told) {
		t.Errorf("%q on %v: %v, %q, told as %v, %q", line, before, after, reply, told, toldReply)
	}
	if (want == "no" || want == "what") && !sameDesk(after, before) {
		t.Errorf("%q changes %v into %v", line, before, after)
	}
	if !sameDesk(d, before) {
		t.Errorf("%q changes its desk %v into %v", line, before, d)
	}
	if !impl.IsDesk(after) {
		t.Errorf("%q leaves no desk: %v", line, after)
	}
	return after
}

// checkDesk checks lines on one desk, each told as a line, => and its reply.
func checkDesk(t *testing.T, d desk, told ...string) {
	t.Helper()
	for _, s := range told {
		line, reply := partsOfTold(t, s)
		checkLine(t, d, line, reply)
	}
}

// partsOfTold returns what stands before and behind the last =>, with one blank on either side of it.
func partsOfTold(t *testing.T, s string) (string, string) {
	t.Helper()
	at := strings.LastIndex(s, " => ")
	if at < 0 {
		t.Fatalf("no reply told: %q", s)
	}
	return s[:at], s[at+len(" => "):]
}

// checkScript checks lines that are executed one after the other, told as for checkDesk. It returns the last desk.
func checkScript(t *testing.T, told ...string) desk {
	t.Helper()
	var lines, replies []string
	d := impl.FirstDesk()
	for _, s := range told {
		line, reply := partsOfTold(t, s)
		lines, replies = append(lines, line), append(replies, reply)
		d = checkLine(t, d, line, reply)
	}
	checkReplies(t, scriptOf(lines...), replies, d)
	return d
}

// checkReplies wants a script to have these replies and to leave this desk.
func checkReplies(t *testing.T, script string, want []string, last desk) {
	t.Helper()
	replies, ok := impl.RunScript(script)
	if !ok || strings.Join(replies, "\n") != strings.Join(want, "\n") || len(replies) != len(want) {
		t.Errorf("%q: %q, %v, not %q", script, replies, ok, want)
	}
	after, ok := impl.DeskAfter(script)
	if !ok || !sameDesk(after, last) {
		t.Errorf("%q: %v, %v, not %v", script, after, ok, last)
	}
	var failed []int
	for i, reply := range want {
		if reply == "no" || reply == "what" {
			failed = append(failed, i+1)
		}
	}
	numbers, ok := impl.FailedLines(script)
	checkNumbers(t, numbers, ok, failed, script)
}

// checkNoScript wants all functions that take a script to fail.
func checkNoScript(t *testing.T, script string) {
	t.Helper()
	checkSuccess(t, scriptCalls(script), false, script)
}

// scriptCalls has a call of each function of chapter 10 that takes a script; its results are what it returns.
func scriptCalls(script string) map[string][]any {
	calls := map[string][]any{}
	keep := func(name string, results ...any) { calls[name] = results }
	replies, ok := impl.RunScript(script)
	keep("RunScript", replies, ok)
	d, ok := impl.DeskAfter(script)
	keep("DeskAfter", d.Expr, d.Code, ok)
	numbers, ok := impl.FailedLines(script)
	keep("FailedLines", numbers, ok)
	return calls
}

func lineCall(d desk, line string) map[string][]any {
	after, reply, ok := impl.DeskLine(d, line)
	return map[string][]any{"DeskLine": {after.Expr, after.Code, reply, ok}}
}

// oneOfEach has a line of each row of the table that succeeds on a desk with code of at most MaxSearched instructions.
var oneOfEach = []string{
	"expr add(x0,x1)", "fold", "normal", "text", "value 5 3", "cost", "known", "range", "rule add(x0,0)->x0/any",
	"do addi r2 r2 1", "clear", "run 5 3 2", "price", "same 2", "best 2", "order",
}
