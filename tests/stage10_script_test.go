package tests

import (
	"slices"
	"strconv"
	"strings"
	"testing"

	"loop.example/g01127/impl"
)

func TestPromise10Example(t *testing.T) {
	d := checkScript(t, "expr add(mul(x0,2),0) => ok", "normal => shl(x0,1)", "do shli r2 r0 1 => ok", "same 2 => same", "run 5 0 2 => 10", "fly => what")
	if !sameDesk(d, deskOf(parsed(t, "shl(x0,1)"), codeOf(t, "shli r2 r0 1"))) {
		t.Error("desk", d)
	}
	numbers, ok := impl.FailedLines("expr x1\nfly\nvalue 64 0\ntext\n")
	checkNumbers(t, numbers, ok, []int{2, 3})
}

func TestPromise10EmptyScript(t *testing.T) {
	checkReplies(t, "", nil, impl.FirstDesk())
	checkReplies(t, "\n", []string{"what"}, impl.FirstDesk())
	checkReplies(t, "\n\n", []string{"what", "what"}, impl.FirstDesk())
	checkReplies(t, " \n", []string{"what"}, impl.FirstDesk())
	checkReplies(t, "\n\nexpr x1\n\n", []string{"what", "what", "ok", "what"}, deskOf([]node{in(1)}, nil))
}

// TestPromise10Ends has texts whose last line is not ended.
func TestPromise10Ends(t *testing.T) {
	for _, script := range []string{"text", " ", "fly", "text\ntext", "text\n ", "\n\nx", "text\n\r", "expr x1\nfold\nclear", "text\n\x00", "text\x0b", "text\x85", "text\u2028"} {
		checkNoScript(t, script)
	}
	// Only the byte 10 ends a line.
	checkReplies(t, "text\r\n", []string{"what"}, impl.FirstDesk())
	checkReplies(t, "text\rtext\ntext\x0b\ntext\u2028\ntext\n", []string{"what", "what", "what", "x0"}, impl.FirstDesk())
}

func TestPromise10MaxLines(t *testing.T) {
	checkReplies(t, strings.Repeat("text\n", 50), slices.Repeat([]string{"x0"}, 50), impl.FirstDesk())
	checkReplies(t, strings.Repeat("text\n", 49), slices.Repeat([]string{"x0"}, 49), impl.FirstDesk())
	checkReplies(t, strings.Repeat("\n", 50), slices.Repeat([]string{"what"}, 50), impl.FirstDesk())
	checkReplies(t, strings.Repeat("expr x1\n", 50), slices.Repeat([]string{"ok"}, 50), deskOf([]node{in(1)}, nil))
	for _, n := range []int{51, 52, 100, 3000} {
		checkNoScript(t, strings.Repeat("\n", n))
		checkNoScript(t, strings.Repeat("\n", n-1)+"x")
	}
	checkNoScript(t, strings.Repeat("text\n", 51))
	checkNoScript(t, strings.Repeat("text\n", 50)+"text")
}

func TestPromise10MaxScript(t *testing.T) {
	want := []string{"what", "x0"}
	for n := 2980; n < 3020; n++ {
		script := strings.Repeat("x", n-6) + "\ntext\n"
		if len(script) != n {
			t.Fatal("bytes", n)
		}
		if n <= 3000 {
			checkReplies(t, script, want, impl.FirstDesk())
		} else {
			checkNoScript(t, script)
		}
		checkNoScript(t, script[:n-1])
	}
	checkNoScript(t, strings.Repeat("x", 3000))
	checkReplies(t, strings.Repeat("x", 2999)+"\n", []string{"what"}, impl.FirstDesk())
	checkReplies(t, strings.Repeat(" ", 2999)+"\n", []string{"what"}, impl.FirstDesk())
	checkNoScript(t, strings.Repeat("x", 3000)+"\n")
	// MaxLines lines and MaxScript bytes at once.
	line := "expr " + nested(13, "x1")
	checkReplies(t, strings.Repeat(line[:59]+"\n", 50), slices.Repeat([]string{"what"}, 50), impl.FirstDesk())
	checkNoScript(t, strings.Repeat(line[:59]+"\n", 49)+line[:60]+"\n")
	checkNoScript(t, strings.Repeat("text\n", 10_000_000))
}

// TestPromise10FailedLines has lines that fail at the beginning, in the middle and at the end.
func TestPromise10FailedLines(t *testing.T) {
	for _, told := range [][]string{
		{"fly => what"}, {"text => x0"}, {"best 0 => no"}, {"text => x0", "fly => what"}, {"fly => what", "text => x0"}, {"same 6 => no", "fly => what", "same 0 => same", " => what", "best 4 => no"},
		slices.Repeat([]string{"fly => what", "value 0 0 => 0", "run 0 0 6 => no"}, 16),
		slices.Repeat([]string{"run 64 0 0 => no"}, 50),
	} {
		checkScript(t, told...)
	}
	numbers, ok := impl.FailedLines(strings.Repeat("fold\n", 49) + "\n")
	checkNumbers(t, numbers, ok, []int{50})
	numbers, ok = impl.FailedLines(strings.Repeat("\n", 50))
	checkNumbers(t, numbers, ok, upTo(51, 1)[1:])
	// No reply to a line that succeeds is taken for a failure.
	numbers, ok = impl.FailedLines("order\nbest 1\nclear\nknown\nsame 1\nrule shr(shl(x0,1),1)->x0/any\n")
	checkNumbers(t, numbers, ok, nil)
}

// TestPromise10FailuresChangeNothing has a desk between lines that fail.
func TestPromise10FailuresChangeNothing(t *testing.T) {
	d := checkScript(t, "expr sub(x1,x0) => ok", "do sub r4 r1 r0 => ok", "same 4 => same", "expr sub(x1,x0 => what", "expr  => what", "do sub r4 r1 => what", "do => what", "clear 1 => what", "fold 1 => what", "normal  => what",
		"same 6 => no", "best 4 => no", "value 64 0 => no", "run 0 0 6 => no", "text => sub(x1,x0)", "price => 1", "same 4 => same")
	if !sameDesk(d, deskOf(parsed(t, "sub(x1,x0)"), codeOf(t, "sub r4 r1 r0"))) {
		t.Error("desk", d)
	}
}

// line returns a line of any sort, some of which fail.
func (d *dice) line() string {
	number := func() string {
		return []string{strconv.Itoa(d.below(7)), strconv.Itoa(d.below(66)), strconv.Itoa(d.below(66)), "999999", "1000000", "01", "", "x"}[d.below(d.below(8)+1)]
	}
	switch d.below(20) {
	case 0, 1, 2:
		return "expr " + d.treeText(1+d.below(12), someLeaves)
	case 3:
		return "expr " + d.treeText(20+d.below(8), someLeaves)
	case 4, 5, 6, 7, 8:
		return "do " + textByHand(d.linked(1, 4)[0])
	case 9:
		return "do " + d.brokenTexts(textByHand(d.instr()), "r0123456789 ad")[d.below(3)]
	case 10:
		return "value " + number() + " " + number()
	case 11:
		return "run " + number() + " " + number() + " " + number()
	case 12, 13:
		return []string{"same ", "best "}[d.below(2)] + number()
	case 14:
		return "rule " + d.treeText(2+d.below(5), someLeaves) + "->" + d.treeText(1+d.below(3), someLeaves) + "/" + sides[d.below(5)]
	case 15:
		return d.brokenTexts(oneOfEach[d.below(len(oneOfEach))], " 019x(,)\t\xff")[d.below(3)]
	case 16:
		return []string{"", " ", "fly", "do", "do ", "expr", "clear 1", "best", "clear"}[d.below(9)]
	}
	return []string{"fold", "normal", "text", "cost", "known", "range", "price", "order"}[d.below(8)]
}

// TestPromise10RandomScripts executes lines one by one, as the calls do that they name, and all at once.
func TestPromise10RandomScripts(t *testing.T) {
	d := dice(121)
	counts := map[string]int{}
	for range 300 {
		now := impl.FirstDesk()
		var lines, replies []string
		for range d.below(51) {
			line := d.line()
			if strings.Contains(line, "\n") {
				t.Fatal("newline", line)
			}
			after, reply := lineByHand(now, line)
			now = checkLine(t, now, line, reply)
			if !sameDesk(now, after) {
				t.Fatal("other desk", line)
			}
			lines, replies = append(lines, line), append(replies, reply)
			counts[reply]++
		}
		if script := scriptOf(lines...); len(script) <= 3000 {
			checkReplies(t, script, replies, now)
		}
	}
	for _, reply := range []string{"ok", "no", "what", "same", "-", "holds"} {
		if counts[reply] < 10 {
			t.Error("few", reply, counts[reply])
		}
	}
}
