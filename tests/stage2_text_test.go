package tests

import (
	"strings"
	"testing"

	"loop.example/g01127/impl"
)

func TestInstrText(t *testing.T) {
	for _, c := range []struct {
		x    instr
		text string
	}{
		{instr{Op: "set", Dst: 5, Imm: 63}, "set r5 63"}, {instr{Op: "set"}, "set r0 0"}, {instr{Op: "mov", Dst: 1, A: 4}, "mov r1 r4"},
		{instr{Op: "not"}, "not r0 r0"}, {instr{Op: "neg", Dst: 3, A: 2}, "neg r3 r2"},
		{instr{Op: "mul", Dst: 2, A: 0, B: 1}, "mul r2 r0 r1"}, {instr{Op: "sub", Dst: 5, A: 4, B: 3}, "sub r5 r4 r3"},
		{instr{Op: "addi", Dst: 2, A: 2, Imm: 5}, "addi r2 r2 5"}, {instr{Op: "xori", Dst: 1, A: 0}, "xori r1 r0 0"},
		{instr{Op: "shri", Dst: 0, A: 5, Imm: 5}, "shri r0 r5 5"}, {instr{Op: "lea", Dst: 3, A: 0, B: 1, Imm: 2}, "lea r3 r0 r1 2"},
		{instr{Op: "andi", Dst: 0, A: 1, Imm: 10}, "andi r0 r1 10"},
	} {
		if s, ok := impl.InstrText(c.x); !ok || s != c.text {
			t.Error(c.x, s, ok)
		}
		if x, ok := impl.ParseInstr(c.text); !ok || x != c.x {
			t.Error(c.text, x, ok)
		}
	}
}

// TestTextsOfAllInstructions has each instruction that there is with two of the constants.
func TestTextsOfAllInstructions(t *testing.T) {
	for _, row := range opRows() {
		for k := range 6 * 6 * 6 {
			for _, imm := range []int{row.least, row.most} {
				want := row.with(k/36, k/6%6, k%6, imm)
				s, ok := impl.InstrText(want)
				if !ok || s != textByHand(want) {
					t.Error(want, s, ok)
				}
				if x, ok := impl.ParseInstr(s); !ok || x != want {
					t.Error(s, x, ok)
				}
			}
		}
	}
}

func TestParseInstrFails(t *testing.T) {
	for _, s := range []string{
		"", " ", "\n", "\x00", "\xff", "set", "set ", "set r2", "set r2 ", "set r2  5", "set  r2 5", " set r2 5", "set r2 5 ", "set r2 5\n", "set r2 5 0",
		"set r2 64", "set r2 -1", "set r2 +1", "set r2 05", "set r2 00", "set r2 -0", "set r2 1_0", "set r2 0x1", "set r2 r1", "set r2 5.0", "set r2 r0 5",
		"set r2 9223372036854775808", "set r2 99999999999999999999999999", "set r2 18446744073709551616",
		"set r6 5", "set r-1 5", "set r02 5", "set r 5", "set 2 5", "set R2 5", "set r+2 5", "set x0 5", "set rr2 5", "set r2r2 5", "set r2,5", "set\tr2\t5",
		"SET r2 5", "sett r2 5", "se r2 5", "nop", "nop r2", "in r2 r0", "const r2 5", "r2", "5", "subi r2 r0 1", "ori r2 r0 1", "muli r2 r0 1",
		"mov r2", "mov r2 r0 r1", "mov r2 0", "mov r2 r6", "mov r2 r0 0", "not r2 r0 r0", "neg r2",
		"add r2 r0", "add r2 r0 r1 r2", "add r2 r0 1", "add r2 r0 r1 0", "add r2 r0 r6", "add r2 r6 r0", "add r2 r0r1", "add r2 r0, r1", "add  r2 r0 r1",
		"addi r2 r0", "addi r2 r0 r1", "addi r2 r0 64", "addi r2 r0 -1", "addi r2 r0 r1 1", "addi r2 r0 1 1", "addi r2 1",
		"shli r2 r0 0", "shli r2 r0 6", "shri r2 r0 0", "shri r2 r0 6", "shri r2 r0 63", "shli r2 r0 r1", "shl r2 r0 1",
		"lea r2 r0 r1", "lea r2 r0 r1 0", "lea r2 r0 r1 4", "lea r2 r0 1", "lea r2 r0 r1 r2", "lea r2 r0 r1 2 2", "lea r2 r0 r1 2 ",
		"mul r2 r0 r1\naddi r2 r2 5", "mul r2 r0 r1;", "mul(r2,r0,r1)", strings.Repeat(" ", 100000), strings.Repeat("r", 100000),
		"set r2 " + strings.Repeat("0", 100000), "set r" + strings.Repeat("2", 100000) + " 5", "set r2 5" + strings.Repeat(" ", 100000),
	} {
		if x, ok := impl.ParseInstr(s); ok || x != (instr{}) {
			t.Errorf("%.60q is %v", s, x)
		}
	}
}

func TestCodeText(t *testing.T) {
	for _, c := range []struct {
		code []instr
		text string
	}{
		{nil, ""},
		{[]instr{{Op: "mul", Dst: 2, A: 0, B: 1}, {Op: "addi", Dst: 2, A: 2, Imm: 5}}, "mul r2 r0 r1\naddi r2 r2 5\n"},
		{[]instr{{Op: "set"}}, "set r0 0\n"},
		{counting(40), strings.Repeat("addi r2 r2 1\n", 40)},
	} {
		if s, ok := impl.CodeText(c.code); !ok || s != c.text {
			t.Errorf("%v has %q", c.code, s)
		}
		if code, ok := impl.ParseCode(c.text); !ok || !sameCode(code, c.code) {
			t.Errorf("%q is %v", c.text, code)
		}
	}
	if s, ok := impl.CodeText([]instr{}); !ok || s != "" {
		t.Error("empty code", s, ok)
	}
	// The longest text of all has less than 1000 bytes.
	long := strings.Repeat("less r0 r1 r2\n", 20) + strings.Repeat("lea r0 r1 r2 3\n", 20)
	if code, ok := impl.ParseCode(long); !ok || len(code) != 40 || code[0].Op != "less" || code[39].Imm != 3 {
		t.Error("long", code, ok)
	}
}

func TestParseCodeFails(t *testing.T) {
	line := "mul r2 r0 r1\n"
	for _, s := range []string{
		"\n", " ", "\n\n", "mul r2 r0 r1", line + "\n", "\n" + line, line + "addi r2 r2 5", line + " ", line + "\x00", line + line + "x",
		"mul r2 r0 r1\r\n", "mul r2 r0 r1 \n", " " + line, "mul r2 r0 r1;", line + "nop\n", "nop\n" + line, line + "\n" + line, "mul r2\nr0 r1\n",
		"lea r2 r0 r1 4\n", "set r6 1\n", "\xff\n",
		strings.Repeat(line, 41), strings.Repeat(line, 76), strings.Repeat(line, 77), strings.Repeat(line, 10000),
		strings.Repeat("\n", 1000), strings.Repeat("\n", 1001), strings.Repeat(" ", 1000), strings.Repeat("\n", 100000),
		strings.Repeat(line, 40) + strings.Repeat(" ", 480), strings.Repeat(line, 40) + strings.Repeat(" ", 481),
		strings.Repeat(line, 40) + strings.Repeat("\n", 480), "set r2 " + strings.Repeat("0", 992) + "\n", "set r2 " + strings.Repeat("0", 993) + "\n",
	} {
		if code, ok := impl.ParseCode(s); ok || len(code) != 0 {
			t.Errorf("%.60q is %v", s, code)
		}
	}
}

// TestPromise2Texts has the texts of random code, and texts with one byte changed.
func TestPromise2Texts(t *testing.T) {
	d := dice(16)
	for range 1000 {
		want := d.code(d.below(41))
		text := ""
		for _, x := range want {
			text += textByHand(x) + "\n"
		}
		if s, ok := impl.CodeText(want); !ok || s != text {
			t.Fatal("text", want, s)
		}
		if code, ok := impl.ParseCode(text); !ok || !sameCode(code, want) {
			t.Fatal("parsed", text, code)
		}
		if text != "" {
			checkBrokenCode(t, &d, text)
		}
	}
}

// checkBrokenCode changes one byte: what is parsed all the same has to have just that text.
func checkBrokenCode(t *testing.T, d *dice, s string) {
	t.Helper()
	for _, broken := range d.brokenTexts(s, "r0123456789 \nabdeilmnostuvx-+") {
		code, ok := impl.ParseCode(broken)
		if !ok {
			if len(code) != 0 {
				t.Errorf("code of no text %q: %v", broken, code)
			}
			continue
		}
		if text, fine := impl.CodeText(code); !impl.IsCode(code) || !fine || text != broken {
			t.Errorf("%q is parsed as %q", broken, text)
		}
	}
}
