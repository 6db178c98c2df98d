package tests

import (
	"fmt"
	"strings"
	"testing"

	"loop.example/g01127/impl"
)

// someLines has lines of all replies.
var someLines = append([]string{"", " ", "fly", "value 64 0", "same 6", "best 4", "do", "do ", "expr", "expr add(x0"}, oneOfEach...)

func checkNoDesk(t *testing.T, d desk) {
	t.Helper()
	before := fmt.Sprint(d)
	if impl.IsDesk(d) {
		t.Error("is a desk", d)
	}
	for _, line := range someLines {
		checkSuccess(t, lineCall(d, line), false, d)
	}
	if after := fmt.Sprint(d); after != before {
		t.Error("changed", before, after)
	}
}

func TestPromise11NoDesks(t *testing.T) {
	checkNoDesk(t, desk{})
	tree := parsed(t, "sub(x0,1)")
	for _, e := range noTrees() {
		for _, code := range [][]instr{nil, {}, counting(1), {{}}} {
			checkNoDesk(t, deskOf(e, code))
		}
	}
	for _, code := range invalidCodes() {
		checkNoDesk(t, deskOf(tree, code))
		checkNoDesk(t, deskOf(nil, code))
	}
	for _, code := range [][]instr{nil, {}} {
		if !impl.IsDesk(deskOf(tree, code)) {
			t.Error("no desk", code)
		}
		checkSuccess(t, lineCall(deskOf(tree, code), "text"), true, code)
	}
}

// TestPromise11RandomDesks has desks that other numbers or ops make no desks, or leave desks.
func TestPromise11RandomDesks(t *testing.T) {
	d := dice(122)
	counts := map[bool]int{}
	for range 2000 {
		e, code := d.expr(1+d.below(8)), d.code(d.below(8))
		if d.below(3) == 0 {
			e[d.below(len(e))].B = extremes[d.below(len(extremes))]
		}
		if len(code) > 0 && d.below(3) == 0 {
			code[d.below(len(code))].Imm = extremes[d.below(len(extremes))]
		}
		x := deskOf(e, code)
		before := fmt.Sprint(x)
		tree, _ := impl.IsTree(e)
		valid := tree && impl.IsCode(code)
		if impl.IsDesk(x) != valid {
			t.Error("desk", x, valid)
		}
		counts[valid]++
		checkSuccess(t, lineCall(x, someLines[d.below(len(someLines))]), valid, x)
		checkSuccess(t, lineCall(x, d.line()), valid, x)
		if after := fmt.Sprint(x); after != before {
			t.Error("changed", before, after)
		}
	}
	if counts[true] < 300 || counts[false] < 300 {
		t.Error("counts", counts)
	}
}

// TestPromise11EachByte has each byte as a line, as a script, as a word and in a text.
func TestPromise11EachByte(t *testing.T) {
	x := someDesk(t)
	for b := range 256 {
		s := string([]byte{byte(b)})
		for _, line := range []string{s, s + s, "expr " + s, "do " + s, "rule " + s, "value " + s + " 1", "same " + s, "expr not(" + s + ")", "do set r1 " + s, "best" + s + "1", "do" + s + "set r1 1"} {
			calls := lineCall(x, line)
			checkSuccess(t, calls, b != 10, line)
			if b == 10 {
				continue
			}
			after, reply := lineByHand(x, line)
			if got := calls["DeskLine"]; got[2] != reply || fmt.Sprint(got[:2]) != fmt.Sprint([]any{after.Expr, after.Code}) {
				t.Errorf("%q: %v, not %v, %q", line, got, after, reply)
			}
		}
		checkSuccess(t, scriptCalls(s), b == 10, s)
		checkSuccess(t, scriptCalls("text\n"+s), b == 10, s)
		checkSuccess(t, scriptCalls("text"+s), b == 10, s)
		checkSuccess(t, scriptCalls(s+"text"), false, s)
		checkSuccess(t, scriptCalls(s+"text\n"), true, s)
	}
}

// TestPromise11RandomScripts has texts of bytes that lines have, and of any bytes.
func TestPromise11RandomScripts(t *testing.T) {
	d := dice(123)
	counts := map[bool]int{}
	for range 1500 {
		var b strings.Builder
		for range d.below(60) {
			switch d.below(8) {
			case 0:
				b.WriteByte(byte(d.below(256)))
			case 1, 2:
				b.WriteString("\n")
			case 3:
				b.WriteString(" ")
			default:
				b.WriteString(d.line() + "\n")
			}
		}
		script := b.String()
		valid := len(script) <= 3000 && strings.Count(script, "\n") <= 50 && (script == "" || script[len(script)-1] == 10)
		counts[valid]++
		checkSuccess(t, scriptCalls(script), valid, script)
		if replies, _ := impl.RunScript(script); valid && len(replies) != strings.Count(script, "\n") {
			t.Errorf("%q: %q", script, replies)
		}
	}
	if counts[true] < 300 || counts[false] < 300 {
		t.Error("counts", counts)
	}
}

// TestPromise11DesksStay has room behind both lists of a desk, and overwrites and grows every result.
func TestPromise11DesksStay(t *testing.T) {
	for _, text := range []string{"x0", "5", "add(mul(x0,2),sub(3,1))", nested(23, "x1")} {
		for _, c := range [][]instr{nil, counting(1), spread(7), counting(40)} {
			n, m := len(parsed(t, text)), len(c)
			e := append(parsed(t, text), node{Op: "behind", A: 7}, node{Op: "behind", B: 8})
			code := append(copyOfCode(c), instr{Op: "behind", A: 7}, instr{Op: "behind", B: 8})
			x := deskOf(e[:n], code[:m])
			before := fmt.Sprint(e, code)
			for _, line := range someLines {
				first := fmt.Sprint(lineCall(x, line))
				calls := lineCall(x, line)
				checkSuccess(t, calls, true, line)
				overwrite(calls["DeskLine"])
				if after := fmt.Sprint(e, code); after != before {
					t.Fatalf("changed by %q: %v, %v", line, before, after)
				}
				if again := fmt.Sprint(lineCall(x, line)); again != first {
					t.Errorf("%q: %v, and then %v", line, first, again)
				}
			}
		}
	}
}

// TestPromise11DesksLeaveRoom lets two lines put other instructions behind the code of one desk that came from a line itself.
func TestPromise11DesksLeaveRoom(t *testing.T) {
	x := impl.FirstDesk()
	for n := range 39 {
		next := checkLine(t, x, "do addi r2 r2 1", "ok")
		other := checkLine(t, x, "do set r5 63", "ok")
		if !sameDesk(next, deskOf([]node{in(0)}, counting(n+1))) || !sameDesk(other, deskOf([]node{in(0)}, append(counting(n), instr{Op: "set", Dst: 5, Imm: 63}))) {
			t.Fatal("shared", n, next, other)
		}
		x = next
	}
}

// TestPromise11ScriptsStay overwrites what scripts and FirstDesk return.
func TestPromise11ScriptsStay(t *testing.T) {
	first := impl.FirstDesk()
	overwrite([]any{first.Expr, first.Code})
	if again := impl.FirstDesk(); !sameDesk(again, deskOf([]node{in(0)}, nil)) {
		t.Error("first", again)
	}
	for _, script := range []string{"", "\n", "fly\n", "do set r2 1\ntext\n", "expr add(x0,x1)\nfold\nsame 6\n", scriptOf(someLines...)} {
		before := fmt.Sprint(scriptCalls(script))
		calls := scriptCalls(script)
		checkSuccess(t, calls, true, script)
		for _, results := range calls {
			overwrite(results)
			if replies, ok := results[0].([]string); ok {
				clear(replies)
				_ = append(replies, "behind")
			}
		}
		if after := fmt.Sprint(scriptCalls(script)); after != before {
			t.Errorf("%q: %v, and then %v", script, before, after)
		}
	}
}
