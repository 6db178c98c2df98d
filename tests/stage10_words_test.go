package tests

import (
	"strings"
	"testing"

	"loop.example/g01127/impl"
)

// someDesk returns a desk on which each line of oneOfEach has a reply that is not no.
func someDesk(t *testing.T) desk {
	t.Helper()
	return deskOf(parsed(t, "add(mul(x0,2),sub(3,1))"), codeOf(t, "mul r2 r0 r1", "addi r2 r2 1", "add r3 r0 r1"))
}

// TestPromise10EachLine has one line of each row of the table, as it is and with one change.
func TestPromise10EachLine(t *testing.T) {
	d := someDesk(t)
	for i, reply := range []string{
		"ok", "add(mul(x0,2),2)", "add(shl(x0,1),sub(3,1))", "add(mul(x0,2),sub(3,1))", "12", "6", "1 0", "0 62", "holds",
		"ok", "ok", "16", "6", "0 0", "0,4,0", "2,0,1",
	} {
		line := oneOfEach[i]
		checkLine(t, d, line, reply)
		for _, other := range []string{
			" " + line, line + " ", line + " 1", line + " x0", "1 " + line, line + " " + line, line + "\t", line + "\r", line + "\x00", "\xff" + line, line + ",",
			strings.ToUpper(line[:1]) + line[1:], line[1:], strings.Replace(line, " ", "  ", 1) + strings.Repeat(" ", 1-min(1, strings.Count(line, " "))),
		} {
			checkLine(t, d, other, "what")
		}
		if at := strings.LastIndex(line, " "); at >= 0 && !strings.HasPrefix(line, "do ") {
			checkLine(t, d, line[:at], "what")
			checkLine(t, d, line[:at+1], "what")
			checkLine(t, d, line[:at]+"\t"+line[at+1:], "what")
			checkLine(t, d, line[:at]+line[at+1:], "what")
		}
	}
}

// TestPromise10LinesThatAreNone has lines that are in no row of the table.
func TestPromise10LinesThatAreNone(t *testing.T) {
	d := someDesk(t)
	for _, line := range []string{
		"", " ", "  ", "   ", "fly", "fly 1", "1", "0 0", "x0", "add(x0,x1)", "add r2 r0 r1", "add(x0,0)->x0/any", "ok", "no", "what", "help", "exp", "exprs x0", "expr", "expr ", "expr  x0", "expr x0 x1",
		"fold 0", "fold x0", "normal 1", "normal x0", "text 1", "cost 1", "known 0", "range 0 1", "rule", "rule ", "do", "do ", "do  ", "clear 1", "clear all", "price 2", "order 1", "order 0,1,2",
		"value", "value ", "value 1", "value 1 ", "value  1", "value 1  1", "value 1 1 ", "value 1 1 1", "value 1,1", "value x0 x1", "value 64", "value 64 64 64",
		"run", "run ", "run 1 1", "run 1 1 ", "run 1  1", "run 1 1 1 1", "run 1 1 r1", "run 64 64", "run 1 1  1", "same", "same ", "same  2", "same 2 2", "same r2", "same 6 6", "same 2 ",
		"best", "best ", "best  1", "best 1 1", "best 0 0", "best one", "valu 1 1", "value1 1", "run1 1 1", "same2", "best1", "sam 2", "range\x00", "fold\t", "fold\r", "\ttext", "価値 1 1", "\xff\xfe",
	} {
		checkLine(t, d, line, "what")
	}
}

// TestPromise10Numbers has texts that are numbers and others in all places of numbers.
func TestPromise10Numbers(t *testing.T) {
	d := someDesk(t)
	for _, line := range []string{"value N 1", "value 1 N", "run N 1 1", "run 1 N 1", "run 1 1 N", "same N", "best N"} {
		for _, text := range []string{
			"", "00", "01", "001", "000000", "0000001", "+1", "-1", "-0", "+0", "1.0", "1e0", "0x1", "1_0", "1,", ",1", "1\t", "\t1", "1\r", "1\x00", "x", "r1", "x0", "one", "１", "\xff", "1a", "a1",
			"1000000", "1000001", "9999999", "10000000000000000000000", "9223372036854775807", "9223372036854775808", "-9223372036854775808", "0999999", "4294967296", "18446744073709551617",
			strings.Repeat("0", 1000), strings.Repeat("1", 2000), strings.Repeat("0", 999) + "1",
		} {
			checkLine(t, d, strings.Replace(line, "N", text, 1), "what")
		}
		for _, text := range []string{"64", "65", "100", "127", "128", "1000", "65536", "99999", "100000", "999998", "999999"} {
			checkLine(t, d, strings.Replace(line, "N", text, 1), "no")
		}
	}
	for line, reply := range map[string]string{"value 0 1": "2", "value 1 0": "4", "run 0 1 1": "1", "run 1 0 0": "1", "run 1 0 1": "0", "same 0": "0 0", "best 3": "0,4,0"} {
		checkLine(t, d, line, reply)
	}
}

// TestPromise10Lengths has lines of MaxScript bytes, and of one more.
func TestPromise10Lengths(t *testing.T) {
	d := someDesk(t)
	for _, line := range append([]string{"", "do ", "expr ", "rule ", "value 1 1"}, oneOfEach...) {
		for _, filling := range []string{" ", "0", "x", "(", "not(", "1 ", "\x00", "\xff"} {
			long := line + strings.Repeat(filling, 3001)
			checkLine(t, d, long[:2999], "what")
			checkLine(t, d, long[:3000], "what")
			for _, n := range []int{3001, 3002, len(long)} {
				checkSuccess(t, lineCall(d, long[:min(n, len(long))]), false, n)
			}
		}
	}
	checkSuccess(t, lineCall(d, strings.Repeat("expr not(", 10_000_000)), false, "long")
}

// TestPromise10Newlines has lines with newlines, which are none whatever stands before them and behind.
func TestPromise10Newlines(t *testing.T) {
	d := someDesk(t)
	for _, line := range append([]string{"", " ", "fly", "do", "do "}, oneOfEach...) {
		for _, other := range []string{line + "\n", "\n" + line, line + "\n" + line, line + "\r\n", line + "\n\n", line[:len(line)/2] + "\n" + line[len(line)/2:]} {
			checkSuccess(t, lineCall(d, other), false, other)
		}
		if calls := lineCall(d, line); calls["DeskLine"][3] != true {
			t.Error("fails", line, calls)
		}
	}
	checkSuccess(t, lineCall(impl.FirstDesk(), "\n"), false, "newline")
}
