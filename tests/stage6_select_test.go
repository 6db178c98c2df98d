package tests

import (
	"strconv"
	"strings"
	"testing"

	"loop.example/g01127/impl"
)

func TestPromise6Example(t *testing.T) {
	e := parsed(t, "sub(mul(x0,x1),add(x0,1))")
	code, r, ok := impl.SelectBest(e)
	if !ok || r != 2 || codeLines(code) != "mul r2 r0 r1, addi r3 r0 1, sub r2 r2 r3" {
		t.Error("code", codeLines(code), r, ok)
	}
	needs, ok := impl.NeedsOf(e, coverOf(t, impl.BestCover, e))
	if !ok || needs[2] != 1 || needs[5] != 1 || needs[6] != 2 {
		t.Error("needs", needs, ok)
	}
	checkRuns(t, e, code, r)
}

func TestPromise6BestByOne(t *testing.T) {
	for _, c := range []struct {
		text string
		want string
		r    int
	}{
		{"x0", "", 0},
		{"x1", "", 1},
		{"0", "set r2 0", 2},
		{"63", "set r2 63", 2},
		{"not(x1)", "not r2 r1", 2},
		{"sub(x0,x1)", "sub r2 r0 r1", 2},
		{"sub(x1,x0)", "sub r2 r1 r0", 2},
		{"sub(x1,x1)", "sub r2 r1 r1", 2},
		{"sub(x0,not(x1))", "not r2 r1, sub r2 r0 r2", 2},
		{"sub(not(x1),x0)", "not r2 r1, sub r2 r2 r0", 2},
		{"sub(not(x0),neg(x1))", "not r2 r0, neg r3 r1, sub r2 r2 r3", 2},
		{"less(1,2)", "set r2 1, set r3 2, less r2 r2 r3", 2},
		{"sub(not(x0),less(not(x1),neg(x0)))", "not r2 r1, neg r3 r0, less r2 r2 r3, not r3 r0, sub r2 r3 r2", 2},
		{"sub(less(not(x1),neg(x0)),not(x0))", "not r2 r1, neg r3 r0, less r2 r2 r3, not r3 r0, sub r2 r2 r3", 2},
		{"sub(x1,less(not(x1),neg(x0)))", "not r2 r1, neg r3 r0, less r2 r2 r3, sub r2 r1 r2", 2},
		{"sub(x0,5)", "addi r2 r0 59", 2},
		{"sub(x0,0)", "addi r2 r0 0", 2},
		{"sub(not(x0),0)", "not r2 r0, addi r2 r2 0", 2},
		{"sub(5,x0)", "set r2 5, sub r2 r2 r0", 2},
		{"and(x0,7)", "andi r2 r0 7", 2},
		{"and(7,x0)", "andi r2 r0 7", 2},
		{"or(x0,7)", "set r2 7, or r2 r0 r2", 2},
		{"or(7,x0)", "set r2 7, or r2 r2 r0", 2},
		{"mul(x0,3)", "set r2 3, mul r2 r0 r2", 2},
		{"mul(x0,1)", "set r2 1, mul r2 r0 r2", 2},
		{"shl(x0,0)", "set r2 0, shl r2 r0 r2", 2},
		{"shr(x0,6)", "set r2 6, shr r2 r0 r2", 2},
		{"shr(6,x0)", "set r2 6, shr r2 r2 r0", 2},
		{"add(x0,shl(x1,4))", "shli r2 r1 4, add r2 r0 r2", 2},
		{"add(shl(x1,4),x0)", "shli r2 r1 4, add r2 r2 r0", 2},
		{"add(x0,mul(x1,16))", "shli r2 r1 4, add r2 r0 r2", 2},
		{"add(x0,mul(4,x1))", "shli r2 r1 2, add r2 r0 r2", 2},
		{"add(mul(4,x1),x0)", "shli r2 r1 2, add r2 r2 r0", 2},
		{"add(x0,shr(x1,2))", "shri r2 r1 2, add r2 r0 r2", 2},
		{"sub(x0,shl(x1,2))", "shli r2 r1 2, sub r2 r0 r2", 2},
		{"add(not(x0),shl(neg(x1),2))", "not r2 r0, neg r3 r1, lea r2 r2 r3 2", 2},
		{"add(shl(neg(x1),2),not(x0))", "not r2 r0, neg r3 r1, lea r2 r2 r3 2", 2},
		{"add(x0,mul(less(1,2),8))", "set r2 1, set r3 2, less r2 r2 r3, lea r2 r0 r2 3", 2},
		{"add(not(x0),mul(less(1,2),8))", "set r2 1, set r3 2, less r2 r2 r3, not r3 r0, lea r2 r3 r2 3", 2},
		{"add(shl(x0,1),shl(x1,3))", "shli r2 r0 1, lea r2 r2 r1 3", 2},
		{orsOf(1, 4), "set r2 1, set r3 2, or r2 r2 r3, set r3 3, set r4 4, or r3 r3 r4, or r2 r2 r3", 2},
	} {
		e := parsed(t, c.text)
		code, r, ok := impl.SelectBest(e)
		if !ok || r != c.r || codeLines(code) != c.want {
			t.Error(c.text, codeLines(code), r, ok)
		}
		checkRuns(t, e, code, r)
	}
}

// TestPromise6WordsOnEitherSide has products with all powers, and sums with a product or a shift inside.
func TestPromise6WordsOnEitherSide(t *testing.T) {
	check := func(text string, want string) {
		t.Helper()
		code, r, ok := impl.SelectBest(parsed(t, text))
		if !ok || r != 2 || codeLines(code) != want {
			t.Error(text, codeLines(code), r, ok)
		}
		checkRuns(t, parsed(t, text), code, r)
	}
	for word, power := range powers {
		c, n := strconv.Itoa(word), strconv.Itoa(power)
		check("mul(x0,"+c+")", "shli r2 r0 "+n)
		check("mul("+c+",x1)", "shli r2 r1 "+n)
		check("shl(x0,"+n+")", "shli r2 r0 "+n)
		check("shr(x1,"+n+")", "shri r2 r1 "+n)
		if power <= 3 {
			check("add(x0,mul(x1,"+c+"))", "lea r2 r0 r1 "+n)
			check("add(mul(x1,"+c+"),x0)", "lea r2 r0 r1 "+n)
			check("add(x0,shl(x1,"+n+"))", "lea r2 r0 r1 "+n)
			check("add(shl(x1,"+n+"),x0)", "lea r2 r0 r1 "+n)
		}
	}
}

// checkCode holds the code for a cover against that told by hand, and against the tree and the cost of the cover.
func checkCode(t *testing.T, e []node, tiles toldTiles, cover []int) {
	t.Helper()
	code, r := selected(t, e, cover)
	want, at := tiles.codeByHand(t, e, cover)
	if !sameCode(code, want) || r != at {
		t.Error("code", e, cover, codeLines(code), r, codeLines(want), at)
	}
	if cost, ok := impl.CodeCost(code); !ok || cost != tiles.costOf(cover) {
		t.Error("cost", e, cover, codeLines(code), cost, ok)
	}
	if n, ok := impl.TemporariesOf(code); !ok || n != tiles.need(cover, len(e)-1) {
		t.Error("temporaries", e, cover, codeLines(code), n, ok)
	}
	for _, x := range code {
		if x.Dst < 2 {
			t.Error("writes an input", e, cover, codeLines(code))
		}
	}
	checkRuns(t, e, code, r)
}

func TestPromise6CodeOfAllCovers(t *testing.T) {
	d := dice(64)
	count := 0
	for range 120 {
		e := d.coverTree(t, 1+d.below(11))
		tiles := allTilesByHand(t, e)
		covers, ok := impl.AllCovers(e)
		if !ok {
			t.Fatal("covers", e)
		}
		count += len(covers)
		for _, cover := range covers {
			checkCode(t, e, tiles, cover)
		}
	}
	if count < 200 {
		t.Error("few covers", count)
	}
}

func TestPromise6CodeOfLargeTrees(t *testing.T) {
	d := dice(65)
	for range 150 {
		e := d.coverTree(t, 12+d.below(13))
		tiles := allTilesByHand(t, e)
		checkCode(t, e, tiles, d.someCover(tiles))
		best := coverOf(t, impl.BestCover, e)
		checkCode(t, e, tiles, best)
		code, r := selected(t, e, best)
		other, at, ok := impl.SelectBest(e)
		if !ok || at != r || !sameCode(code, other) {
			t.Error("best", e, codeLines(code), r, codeLines(other), at, ok)
		}
		checkSaved(t, e, tiles)
	}
}

// checkSaved holds SavedBy against the costs of the covers told by hand.
func checkSaved(t *testing.T, e []node, tiles toldTiles) {
	t.Helper()
	best, largest := coverOf(t, impl.BestCover, e), coverOf(t, impl.LargestCover, e)
	n, ok := impl.SavedBy(e)
	if !ok || n != tiles.costOf(largest)-tiles.costOf(best) || n < 0 {
		t.Error("saved", e, n, ok)
	}
}

// TestPromise6Saved has trees whose covers differ. All tiles that take a constant save the same, so that none of them saves more than 0.
func TestPromise6Saved(t *testing.T) {
	for _, text := range []string{
		"x0", "1", "not(x0)", "mul(x0,x1)", "add(1,2)", "mul(2,4)", "add(mul(x0,2),5)", "add(5,shl(x0,1))",
		"add(mul(x0,2),mul(x1,4))", "add(7,mul(4,8))", "add(mul(mul(x0,x1),2),mul(4,3))", nested(23, "x0"),
	} {
		e := parsed(t, text)
		if n, ok := impl.SavedBy(e); !ok || n != 0 {
			t.Error(text, n, ok)
		}
		checkSaved(t, e, allTilesByHand(t, e))
	}
}

// TestPromise6NoCodeForNoCovers has lists that are no covers.
func TestPromise6NoCodeForNoCovers(t *testing.T) {
	for _, text := range []string{"x0", "5", "add(1,2)", "add(x0,mul(x1,4))", "sub(mul(x0,x1),add(x0,1))"} {
		e := parsed(t, text)
		tiles := allTilesByHand(t, e)
		for _, cover := range noCovers(tiles, coverOf(t, impl.BestCover, e)) {
			if code, r, ok := impl.SelectCode(e, cover); ok || r != 0 || len(code) != 0 {
				t.Error(text, cover, codeLines(code), r, ok)
			}
		}
	}
}

func TestPromise6CompileByOne(t *testing.T) {
	shared := []node{in(0), constant(1), two("add", 0, 1), two("mul", 2, 2)}
	for _, c := range []struct {
		e    []node
		want string
		r    int
	}{
		{[]node{in(0)}, "", 0},
		{[]node{in(1)}, "", 1},
		{[]node{constant(9)}, "set r2 9", 2},
		{shared, "addi r2 r0 1, addi r3 r0 1, mul r2 r2 r3", 2},
		{doubling(2), "add r2 r0 r0", 2},
		{doubling(3), "add r2 r0 r0, add r3 r0 r0, add r2 r2 r3", 2},
		{parsed(t, "add(x0,sub(1,3))"), "addi r2 r0 62", 2},
		{parsed(t, "mul(add(1,2),neg(5))"), "set r2 49", 2},
		{parsed(t, "mul(x0,add(1,1))"), "shli r2 r0 1", 2},
		{parsed(t, "add(x1,shl(x0,sub(3,1)))"), "lea r2 r1 r0 2", 2},
		{parsed(t, "sub(x0,x0)"), "sub r2 r0 r0", 2},
		// One constant is the second operand of two ops, and the product of both is folded.
		{[]node{in(1), constant(4), two("mul", 0, 1), two("xor", 2, 1)}, "shli r2 r1 2, xori r2 r2 4", 2},
		// Without the fold there are more than 24 nodes.
		{append([]node{constant(1)}, doubling(24)[1:]...), "set r2 0", 2},
		{append([]node{constant(1)}, doubling(6)[1:]...), "set r2 32", 2},
	} {
		code, r, ok := impl.CompileExpr(c.e)
		if !ok || r != c.r || codeLines(code) != c.want {
			t.Error(c.e, codeLines(code), r, ok)
		}
		checkRuns(t, c.e, code, r)
	}
	for _, e := range [][]node{doubling(5), doubling(6), doubling(24)} {
		if code, r, ok := impl.CompileExpr(e); ok || r != 0 || len(code) != 0 {
			t.Error("too many nodes", e, codeLines(code), r, ok)
		}
	}
	// Twice 11 nodes and a root are 23, with one more they are 24, and twice 12 and a root are 25.
	for _, n := range []int{11, 12} {
		e := append(chain(n), two("eq", n-1, n-1))
		if n == 11 {
			e = append(e, one("neg", n))
		}
		if _, _, ok := impl.CompileExpr(e); ok != (n == 11) {
			t.Error("limit", n, ok)
		}
	}
}

// TestPromise6CompileShared has expressions with nodes that are used more than once.
func TestPromise6CompileShared(t *testing.T) {
	d := dice(66)
	counts := map[bool]int{}
	for range 800 {
		e := d.expr(1 + d.below(24))
		folded, _ := impl.FoldExpr(e)
		texts := walkTexts(folded, len(folded)-1)
		code, r, ok := impl.CompileExpr(e)
		counts[ok]++
		if ok != (len(texts) <= 24) {
			t.Error("compiled", e, len(texts), ok)
		}
		if !ok {
			if r != 0 || len(code) != 0 {
				t.Error("code", e, codeLines(code), r)
			}
			continue
		}
		tree := parsed(t, texts[len(texts)-1])
		want, at := allTilesByHand(t, tree).codeByHand(t, tree, coverOf(t, impl.BestCover, tree))
		if r != at || !sameCode(code, want) {
			t.Error("code", e, codeLines(code), r, codeLines(want), at)
		}
		checkRuns(t, e, code, r)
	}
	if counts[true] < 100 || counts[false] < 20 {
		t.Error("counts", counts)
	}
}

func TestPromise6Temporaries(t *testing.T) {
	for _, c := range []struct {
		lines string
		count int
	}{
		{"", 0},
		{"set r0 1", 0},
		{"set r1 1", 0},
		{"set r0 1,set r1 2,add r0 r2 r3", 0},
		{"set r2 1", 1},
		{"set r5 1", 1},
		{"set r2 1,set r2 2", 1},
		{"set r4 1,set r3 2,set r4 3,set r3 4", 2},
		{"set r2 1,set r3 1,set r4 1,set r5 1", 4},
		{"set r0 1,set r1 1,set r2 1,set r3 1,set r4 1,set r5 1", 4},
		{"set r2 1,set r0 1,set r2 1,set r1 1,set r3 1", 2},
		// What is only read is not written.
		{"lea r2 r3 r4 1", 1},
		{"lea r0 r3 r4 1", 0},
	} {
		var code []instr
		if c.lines != "" {
			code = codeOf(t, strings.Split(c.lines, ",")...)
		}
		if n, ok := impl.TemporariesOf(code); !ok || n != c.count {
			t.Error(c.lines, n, ok)
		}
	}
	if n, ok := impl.TemporariesOf(counting(40)); !ok || n != 1 {
		t.Error("counting", n, ok)
	}
	d := dice(67)
	for range 300 {
		code := d.code(d.below(12))
		written := map[int]bool{}
		for _, x := range code {
			if x.Dst > 1 {
				written[x.Dst] = true
			}
		}
		if n, ok := impl.TemporariesOf(code); !ok || n != len(written) {
			t.Error(codeLines(code), n, ok)
		}
	}
}
