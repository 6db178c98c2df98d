package tests

import (
	"slices"
	"strings"
	"testing"

	"loop.example/g01127/impl"
)

func TestPromise10Desks(t *testing.T) {
	first := impl.FirstDesk()
	if !sameDesk(first, deskOf([]node{in(0)}, nil)) || !impl.IsDesk(first) {
		t.Error("first", first)
	}
	for _, e := range [][]node{{in(1)}, {constant(63)}, chain(24), parsed(t, "sub(x0,x1)"), {in(1), in(0), two("sub", 1, 0)}} {
		for _, code := range [][]instr{nil, {}, counting(1), counting(40), spread(21)} {
			if !impl.IsDesk(deskOf(e, code)) {
				t.Error("no desk", e, code)
			}
		}
	}
}

func TestPromise10ExprLines(t *testing.T) {
	d := checkScript(t, "text => x0", "expr x1 => ok", "text => x1", "expr 63 => ok", "text => 63", "expr sub(x0,mul(x1,3)) => ok", "text => sub(x0,mul(x1,3))")
	if !sameDesk(d, deskOf(parsed(t, "sub(x0,mul(x1,3))"), nil)) {
		t.Error("desk", d)
	}
	checkScript(t, "expr "+nested(23, "x1")+" => ok", "text => "+nested(23, "x1"), "expr "+nested(24, "x1")+" => what", "text => "+nested(23, "x1"))
	for _, text := range []string{
		"", " ", "x", "x2", "64", "00", "01", "-1", "+1", "not", "not()", "not(x0", "not(x0))", "add(x0)", "add(x0,x1,x1)", "add(x0, x1)", "x0 x1", "x0 ", " x0", "x0 1",
		"const(3)", "in", "X0", "x0\x00", "\xff", "x0\t", "x0\r", "ok", "expr x0", nested(100, "x0"), strings.Repeat("add(x0,", 300), strings.Repeat("0", 2000) + "1",
	} {
		checkDesk(t, d, "expr "+text+" => what")
	}
}

func TestPromise10FoldAndNormalLines(t *testing.T) {
	checkScript(t, "fold => x0", "text => x0", "normal => x0",
		"expr add(x0,sub(1,3)) => ok", "normal => add(x0,sub(1,3))", "text => add(x0,sub(1,3))", "fold => add(x0,62)", "text => add(x0,62)", "fold => add(x0,62)", "normal => add(x0,62)",
		"expr mul(3,not(2)) => ok", "fold => 55", "text => 55", "fold => 55", "normal => 55")
	checkScript(t, "expr add(mul(x0,1),neg(sub(x1,0))) => ok", "fold => add(mul(x0,1),neg(sub(x1,0)))", "normal => sub(x0,x1)", "text => sub(x0,x1)", "normal => sub(x0,x1)",
		"expr eq(mul(x1,5),mul(x1,5)) => ok", "fold => eq(mul(x1,5),mul(x1,5))", "normal => 1", "text => 1",
		// Neither one does what the other one does.
		"expr add(x0,and(x1,sub(3,3))) => ok", "normal => add(x0,and(x1,0))", "fold => add(x0,and(x1,0))",
		"expr mul(x1,sub(2,1)) => ok", "normal => mul(x1,sub(2,1))", "fold => mul(x1,1)", "normal => x1")
}

// TestPromise10DeskInAnotherOrder has a tree that is not in the order of its walk.
func TestPromise10DeskInAnotherOrder(t *testing.T) {
	d := deskOf([]node{in(1), constant(3), in(0), two("mul", 2, 1), two("sub", 3, 0)}, counting(2))
	checkDesk(t, d, "text => sub(mul(x0,3),x1)", "value 5 2 => 13", "cost => 5", "fold => sub(mul(x0,3),x1)", "normal => sub(mul(x0,3),x1)")
	for _, line := range []string{"fold", "normal", "text", "price", "what is this"} {
		if after, _, ok := impl.DeskLine(d, line); !ok || !sameDesk(after, d) {
			t.Error("other desk", line, after)
		}
	}
	if after, _, ok := impl.DeskLine(d, "do mov r0 r1"); !ok || !sameDesk(after, deskOf(d.Expr, append(counting(2), instr{Op: "mov", A: 1}))) {
		t.Error("do", after)
	}
	if after, _, ok := impl.DeskLine(d, "expr x1"); !ok || !sameDesk(after, deskOf([]node{in(1)}, counting(2))) {
		t.Error("expr", after)
	}
}

func TestPromise10ValueLines(t *testing.T) {
	checkScript(t, "value 0 0 => 0", "value 63 0 => 63", "value 5 63 => 5", "value 64 0 => no", "value 0 64 => no", "value 64 64 => no", "value 999999 0 => no", "value 0 999999 => no",
		"value 1000000 0 => what", "value 0 1000000 => what", "expr add(x0,mul(x1,3)) => ok", "value 60 2 => 2", "value 2 60 => 54", "value 63 63 => 60",
		"expr 7 => ok", "value 0 0 => 7", "value 64 0 => no", "value 0 64 => no")
}

func TestPromise10CostKnownAndRangeLines(t *testing.T) {
	checkScript(t, "cost => 0", "known => 0 0", "range => 0 63",
		"expr 5 => ok", "cost => 0", "known => 58 5", "range => 5 5",
		"expr mul(x0,2) => ok", "cost => 4", "known => 1 0", "range => 0 62",
		"expr add(shl(x0,2),or(1,neg(x1))) => ok", "cost => 5", "known => 0 1", "range => 1 63",
		"expr or(and(x0,12),33) => ok", "cost => 2", "known => 18 33", "range => 33 45",
		"expr sub(x0,x0) => ok", "known => 63 0", "range => 0 0",
		"expr less(x0,0) => ok", "cost => 1", "known => 63 0", "range => 0 0")
}

func TestPromise10RuleLines(t *testing.T) {
	d := checkScript(t, "rule shr(shl(x0,1),1)->x0/any => 32 0", "rule add(x0,0)->x0/any => holds", "rule sub(x0,x1)->sub(x1,x0)/any => 0 1",
		"rule less(x0,x1)->less(x0,x1)/any => holds", "rule less(x0,x1)->0/any => 0 1", "rule less(x1,x0)->0/odd => 2 1", "rule shr(x0,x1)->0/small => 2 1",
		"rule not(x0)->0/any => 0 0", "rule eq(x0,63)->0/any => 63 0", "rule and(eq(x0,63),eq(x1,63))->0/any => 63 63", "rule and(eq(x0,63),eq(x1,62))->0/odd => holds",
		"rule eq(x1,1)->0/power => 0 1", "rule eq(x1,0)->0/power => holds", "rule not(not(x0))->x0/const => what", "text => x0", "price => 0")
	if !sameDesk(d, impl.FirstDesk()) {
		t.Error("desk", d)
	}
	for _, text := range append([]string{
		"", " ", "->", "x0", "x0->x0/any", "add(x0,0)->x0", "add(x0,0)->x0/", "add(x0,0)->x0/any ", " add(x0,0)->x0/any", "add(x0,0) ->x0/any", "add(x0,0)->x1/any", "add(x0,0)->x0/odd",
		"add(x0,0)->x0/other", "add(x0,0)-x0/any", "add(x0,0)->x0/any/any", "add(x0,0)->x0->x0/any", "5->5/any", nested(24, "x0") + "->x0/any", "not(x0)->" + nested(24, "x0") + "/any",
		"add(x0,0)->x0/any x", "\xff->\xff/any", strings.Repeat("a", 2000),
	}, commonTexts...) {
		checkDesk(t, d, "rule "+text+" => what")
	}
	for _, text := range commonTexts {
		checkDesk(t, d, "rule "+text+"/any => holds")
	}
	checkDesk(t, d, "rule "+nested(23, "x0")+"->x0/any => 0 0", "rule "+nested(22, "x0")+"->"+nested(4, "x0")+"/any => holds")
}

func TestPromise10DoClearAndPriceLines(t *testing.T) {
	d := checkScript(t, "price => 0", "do mul r2 r0 r1 => ok", "price => 4", "do addi r2 r2 5 => ok", "price => 5", "do shl r5 r4 r3 => ok", "price => 7", "run 3 4 2 => 17")
	if !sameDesk(d, deskOf([]node{in(0)}, codeOf(t, "mul r2 r0 r1", "addi r2 r2 5", "shl r5 r4 r3"))) {
		t.Error("desk", d)
	}
	for _, text := range []string{
		"", " ", "mul", "mul r2 r0", "mul r2 r0 r1 ", " mul r2 r0 r1", "mul  r2 r0 r1", "mul r2 r0 r1 r3", "mul r6 r0 r1", "mul r2,r0,r1", "addi r2 r2 64", "addi r2 r2 05", "addi r2 r2 -1",
		"shli r2 r2 0", "shli r2 r2 6", "lea r2 r0 r1 4", "set r2", "set r2 1 ", "in r0", "do set r2 1", "MUL r2 r0 r1", "mul r2 r0 r1\r", "\xff", "\x00", "nop", strings.Repeat(" ", 1000),
	} {
		checkDesk(t, d, "do "+text+" => what")
	}
	checkDesk(t, d, "do => what", "do\tset r2 1 => what", "doset r2 1 => what")
	checkScript(t, "do set r0 9 => ok", "expr x1 => ok", "clear => ok", "price => 0", "run 7 0 0 => 7", "text => x1", "clear => ok", "do set r0 9 => ok", "price => 1", "run 7 0 0 => 9")
	for _, row := range opRows() {
		x := row.with(5, 4, 3, row.most)
		after := checkLine(t, d, "do "+textByHand(x), "ok")
		if !sameCode(after.Code, append(copyOfCode(d.Code), x)) {
			t.Error("code", after.Code)
		}
	}
}

func TestPromise10DoMeetsTheLimit(t *testing.T) {
	d := deskOf([]node{in(0)}, counting(39))
	checkDesk(t, d, "do addi r2 r2 1 => ok", "do addi r2 r2 64 => what", "price => 39", "run 0 0 2 => 39")
	full := deskOf([]node{in(0)}, counting(40))
	// A text that is no instruction is none, whether there is room for it or not.
	checkDesk(t, full, "do addi r2 r2 1 => no", "do mul r0 r0 r0 => no", "do addi r2 r2 64 => what", "do  => what", "do => what", "price => 40", "run 0 0 2 => 40", "clear => ok", "order => no", "best 1 => no")
	told := slices.Repeat([]string{"do addi r2 r2 1 => ok"}, 40)
	last := checkScript(t, append(told, "do addi r2 r2 1 => no", "price => 40", "run 0 0 2 => 40", "clear => ok", "do addi r2 r2 1 => ok", "price => 1")...)
	if !sameDesk(last, deskOf([]node{in(0)}, counting(1))) {
		t.Error("desk", last)
	}
}

func TestPromise10RunLines(t *testing.T) {
	// The registers from 2 on, which no instruction writes, have 0 in them.
	checkScript(t, "run 5 9 0 => 5", "run 5 9 1 => 9", "run 5 9 2 => 0", "run 5 9 5 => 0", "run 5 9 6 => no", "run 63 63 5 => 0", "run 64 0 0 => no", "run 0 64 0 => no",
		"run 999999 0 0 => no", "run 0 999999 0 => no", "run 0 0 999999 => no", "run 1000000 0 0 => what", "run 0 1000000 0 => what", "run 0 0 1000000 => what",
		"do lea r3 r0 r1 2 => ok", "run 3 4 3 => 19", "run 4 3 3 => 16", "run 63 63 3 => 59", "run 3 4 2 => 0", "run 3 4 4 => 0", "run 3 4 5 => 0",
		"do set r0 7 => ok", "run 3 4 0 => 7", "run 3 4 3 => 19", "run 3 4 6 => no", "run 64 4 6 => no")
}

func TestPromise10SameLines(t *testing.T) {
	// Registers that the code does not write: the inputs, and 0 from 2 on.
	checkScript(t, "same 0 => same", "same 1 => 0 1", "same 2 => 1 0", "same 5 => 1 0", "same 6 => no", "same 999999 => no", "same 1000000 => what",
		"expr x1 => ok", "same 0 => 0 1", "same 1 => same", "same 2 => 0 1", "expr 0 => ok", "same 3 => same", "same 5 => same", "same 6 => no",
		"expr 1 => ok", "same 2 => 0 0", "do set r5 1 => ok", "same 5 => same", "same 4 => 0 0")
	checkScript(t, "expr add(mul(x0,2),0) => ok", "do shli r2 r0 1 => ok", "same 2 => same", "do mov r3 r2 => ok", "same 3 => same", "do addi r3 r3 1 => ok", "same 3 => 0 0", "same 2 => same",
		"expr eq(x0,x1) => ok", "same 3 => 0 1", "expr mul(x0,add(1,eq(x1,60))) => ok", "same 0 => 1 60", "expr and(eq(x0,63),eq(x1,63)) => ok", "same 4 => 63 63", "same 5 => 63 63",
		"expr eq(x1,63) => ok", "same 4 => 0 63", "expr eq(x0,63) => ok", "same 4 => 63 0")
}

func TestPromise10BestLines(t *testing.T) {
	checkScript(t, "best 1 => -", "best 2 => -", "best 3 => -", "best 0 => no", "best 4 => no", "best 999999 => no", "best 1000000 => what",
		"do mul r2 r0 r1 => ok", "best 1 => 0", "do addi r2 r2 1 => ok", "best 1 => 0,4", "do add r3 r0 r1 => ok", "best 1 => 0,4,1", "best 2 => 0,4,0", "best 3 => 0,4,0", "best 0 => no", "best 4 => no")
	for wide, reply := range map[string]string{"1": "0,1,2,3,4,5,6", "2": "0,0,1,1,2,2,3", "3": "0,0,0,1,1,1,2", "0": "no", "4": "no"} {
		// The last instruction writes the register of the first one.
		checkDesk(t, deskOf([]node{in(0)}, spread(7)), "best "+wide+" => "+reply)
		checkDesk(t, deskOf([]node{in(0)}, spread(8)), "best "+wide+" => no")
		checkDesk(t, deskOf([]node{in(0)}, counting(40)), "best "+wide+" => no")
	}
	checkDesk(t, deskOf([]node{in(0)}, spread(8)), "best x => what", "best 1000000 => what")
}

func TestPromise10OrderLines(t *testing.T) {
	checkScript(t, "order => -", "do mul r2 r0 r1 => ok", "order => 0", "do addi r2 r2 1 => ok", "order => 0,1", "do add r3 r0 r1 => ok", "order => 2,0,1", "clear => ok", "order => -")
	checkDesk(t, deskOf([]node{in(0)}, spread(6)), "order => 5,4,3,2,1,0")
	checkDesk(t, deskOf([]node{in(0)}, counting(20)), "order => 0,1,2,3,4,5,6,7,8,9,10,11,12,13,14,15,16,17,18,19")
	checkDesk(t, deskOf([]node{in(0)}, counting(21)), "order => no")
	checkDesk(t, deskOf([]node{in(0)}, spread(20)), "order => 5,11,17,4,10,16,3,9,15,2,8,14,1,7,13,19,0,6,12,18")
	checkDesk(t, deskOf([]node{in(0)}, spread(40)), "order => no")
}
