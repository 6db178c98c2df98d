package tests

import (
	"math"
	"slices"
	"testing"

	"loop.example/g01127/impl"
)

func TestMaxClasses(t *testing.T) {
	if impl.MaxClasses != 8 {
		t.Error("constant", impl.MaxClasses)
	}
}

// pairCase is what is told of two expressions; first has their first difference, and is empty if they are equal.
type pairCase struct {
	e, f  string
	first []int
	count int
	bits  int
}

func pairCases() []pairCase {
	return []pairCase{
		// One leaf.
		{"x0", "x0", nil, 0, 0}, {"x1", "x1", nil, 0, 0}, {"0", "0", nil, 0, 0}, {"63", "63", nil, 0, 0},
		{"x0", "x1", []int{0, 1}, 4032, 63}, {"x1", "x0", []int{0, 1}, 4032, 63},
		{"x0", "0", []int{1, 0}, 4032, 63}, {"x1", "0", []int{0, 1}, 4032, 63}, {"x0", "63", []int{0, 0}, 4032, 63},
		{"5", "4", []int{0, 0}, 4096, 1}, {"0", "63", []int{0, 0}, 4096, 63}, {"32", "0", []int{0, 0}, 4096, 32},
		// Equal but not alike.
		{"sub(x0,x1)", "add(x0,neg(x1))", nil, 0, 0}, {"add(x0,x0)", "shl(x0,1)", nil, 0, 0}, {"mul(x0,2)", "shl(x0,1)", nil, 0, 0},
		{"not(x1)", "xor(x1,63)", nil, 0, 0}, {"not(x1)", "sub(63,x1)", nil, 0, 0}, {"add(x0,x1)", "add(x1,x0)", nil, 0, 0},
		{"x0", "not(not(x0))", nil, 0, 0}, {"0", "mul(x0,0)", nil, 0, 0}, {"1", "eq(x1,x1)", nil, 0, 0}, {"0", "shl(x0,6)", nil, 0, 0},
		{"add(x0,x1)", "add(xor(x0,x1),shl(and(x0,x1),1))", nil, 0, 0},
		// The example, and pairs that are nearly equal.
		{"mul(x0,2)", "shl(x0,x1)", []int{1, 0}, 4096 - 64 - 1 - 2*62, 63},
		{"sub(x0,x1)", "sub(x1,x0)", []int{0, 1}, 4096 - 128, 62},
		{"or(x0,x1)", "add(x0,x1)", []int{1, 1}, 4096 - 729, 63},
		// One difference, at the first and at the last inputs.
		{"0", "eq(or(x0,x1),0)", []int{0, 0}, 1, 1}, {"mul(eq(or(x0,x1),0),63)", "0", []int{0, 0}, 1, 63},
		{"0", "eq(and(x0,x1),63)", []int{63, 63}, 1, 1}, {"x0", "sub(x0,eq(and(x0,x1),63))", []int{63, 63}, 1, 1},
		{"x1", "add(x1,eq(and(x0,x1),63))", []int{63, 63}, 1, 63},
	}
}

func TestPromise3Pairs(t *testing.T) {
	for _, c := range pairCases() {
		e, f := parsed(t, c.e), parsed(t, c.f)
		if is, ok := impl.AreEqual(e, f); !ok || is != (c.count == 0) {
			t.Error("equal", c, is, ok)
		}
		x0, x1, ok := impl.FirstDifference(e, f)
		if c.first == nil && (ok || x0 != 0 || x1 != 0) || c.first != nil && (!ok || !sameNumbers(c.first, []int{x0, x1})) {
			t.Error("first", c, x0, x1, ok)
		}
		if n, ok := impl.CountDifferences(e, f); !ok || n != c.count {
			t.Error("count", c, n, ok)
		}
		if word, ok := impl.DifferentBits(e, f); !ok || word != c.bits {
			t.Error("bits", c, word, ok)
		}
		checkMasks(t, e, f, c.bits)
	}
}

// checkMasks has all masks for two expressions whose different bits are known.
func checkMasks(t *testing.T, e []node, f []node, different int) {
	t.Helper()
	for mask := range 64 {
		want := true
		for place := range 6 {
			want = want && !(isBit(mask, place) && isBit(different, place))
		}
		if is, ok := impl.EqualAt(e, f, mask); !ok || is != want {
			t.Error("equal at", e, f, mask, is, ok)
		}
	}
}

// TestPromise3RandomPairs holds what is told of two expressions against values that are told independently.
func TestPromise3RandomPairs(t *testing.T) {
	d := dice(31)
	for range 40 {
		e := d.expr(1 + d.below(14))
		f := d.expr(1 + d.below(14))
		checkPair(t, e, f)
		checkPair(t, e, e)
		shared, ok := impl.ShareExpr(e)
		if is, fine := impl.AreEqual(e, shared); !ok || !fine || !is {
			t.Error("shared", e, shared)
		}
	}
}

func checkPair(t *testing.T, e []node, f []node) {
	t.Helper()
	p, q := gridOf(e), gridOf(f)
	list := differing(p, q)
	if is, ok := impl.AreEqual(e, f); !ok || is != (len(list) == 0) {
		t.Error("equal", e, f, is, ok)
	}
	if n, ok := impl.CountDifferences(e, f); !ok || n != len(list) {
		t.Error("count", e, f, n, ok)
	}
	x0, x1, ok := impl.FirstDifference(e, f)
	if len(list) == 0 && (ok || x0 != 0 || x1 != 0) || len(list) > 0 && (!ok || !sameNumbers(list[0], []int{x0, x1})) {
		t.Error("first", e, f, x0, x1, ok)
	}
	different := 0
	for _, x := range list {
		different = opValue("or", different, opValue("xor", p[x[0]][x[1]], q[x[0]][x[1]]))
	}
	if word, ok := impl.DifferentBits(e, f); !ok || word != different {
		t.Error("bits", e, f, word, ok)
	}
	checkMasks(t, e, f, different)
}

// TestPromise3OneDifference has pairs that differ for one pair of inputs, in some bits.
func TestPromise3OneDifference(t *testing.T) {
	d := dice(32)
	for i := range 60 {
		e := d.expr(1 + d.below(14))
		x0, x1, mask := d.below(64), d.below(64), 1+d.below(63)
		switch i {
		case 0:
			x0, x1 = 0, 0
		case 1:
			x0, x1 = 63, 63
		case 2:
			x0, x1 = 0, 63
		case 3:
			x0, x1 = 63, 0
		}
		f := markedAt(e, x0, x1, mask)
		for _, pair := range [][2][]node{{e, f}, {f, e}} {
			is, ok := impl.AreEqual(pair[0], pair[1])
			a, b, found := impl.FirstDifference(pair[0], pair[1])
			n, counted := impl.CountDifferences(pair[0], pair[1])
			if is || !ok || a != x0 || b != x1 || !found || n != 1 || !counted {
				t.Error("pair", pair, x0, x1, is, ok, a, b, found, n, counted)
			}
			if word, ok := impl.DifferentBits(pair[0], pair[1]); !ok || word != mask {
				t.Error("bits", pair, mask, word)
			}
			checkMasks(t, pair[0], pair[1], mask)
		}
	}
}

func TestEqualAtFailsForOtherMasks(t *testing.T) {
	e := parsed(t, "add(x0,x1)")
	for _, mask := range []int{-1, 64, 65, 128, math.MinInt, math.MaxInt, math.MinInt + 1} {
		for _, f := range [][]node{e, parsed(t, "x0")} {
			if is, ok := impl.EqualAt(e, f, mask); is || ok {
				t.Error("mask", mask, is, ok)
			}
		}
	}
}

// singleCase is what is told of one expression; the witnesses are empty for inputs that do not matter.
type singleCase struct {
	e               string
	first, second   []int
	least, greatest int
	symmetric       bool
}

func singleCases() []singleCase {
	return []singleCase{
		// One leaf.
		{"x0", []int{0, 0, 1}, nil, 0, 63, false}, {"x1", nil, []int{0, 0, 1}, 0, 63, false},
		{"0", nil, nil, 0, 0, true}, {"63", nil, nil, 63, 63, true},
		// Constants that are no leaves, and inputs that occur but do not matter.
		{"add(60,6)", nil, nil, 2, 2, true}, {"mul(x0,0)", nil, nil, 0, 0, true}, {"sub(x1,x1)", nil, nil, 0, 0, true},
		{"or(xor(x0,x1),63)", nil, nil, 63, 63, true}, {"eq(x1,x1)", nil, nil, 1, 1, true}, {"xor(x1,not(x1))", nil, nil, 63, 63, true},
		{"and(shl(x0,1),1)", nil, nil, 0, 0, true}, {"less(x0,0)", nil, nil, 0, 0, true},
		{"add(x0,mul(x1,0))", []int{0, 0, 1}, nil, 0, 63, false}, {"or(x1,sub(x0,x0))", nil, []int{0, 0, 1}, 0, 63, false},
		// Both inputs matter.
		{"add(x0,x1)", []int{0, 0, 1}, []int{0, 0, 1}, 0, 63, true}, {"sub(x0,x1)", []int{0, 0, 1}, []int{0, 0, 1}, 0, 63, false},
		{"mul(x0,x1)", []int{0, 1, 1}, []int{1, 0, 1}, 0, 63, true}, {"and(x0,x1)", []int{0, 1, 1}, []int{1, 0, 1}, 0, 63, true},
		{"shl(x0,x1)", []int{0, 0, 1}, []int{1, 0, 1}, 0, 63, false}, {"less(x0,x1)", []int{0, 1, 1}, []int{0, 0, 1}, 0, 1, false},
		{"eq(x0,x1)", []int{0, 0, 1}, []int{0, 0, 1}, 0, 1, true}, {"add(less(x0,x1),less(x1,x0))", []int{0, 0, 1}, []int{0, 0, 1}, 0, 1, true},
		// The greatest words are needed to see it.
		{"shr(x0,5)", []int{0, 0, 32}, nil, 0, 1, false}, {"eq(x1,63)", nil, []int{0, 0, 63}, 0, 1, false},
		{"eq(and(x0,x1),63)", []int{0, 63, 63}, []int{63, 0, 63}, 0, 1, true},
		{"add(add(7,and(x1,1)),and(x0,4))", []int{0, 0, 4}, []int{0, 0, 1}, 7, 12, false},
		{"sub(x0,mul(eq(x1,5),x0))", []int{0, 0, 1}, []int{1, 0, 5}, 0, 63, false},
	}
}

func TestPromise3Singles(t *testing.T) {
	for _, c := range singleCases() {
		e := parsed(t, c.e)
		for k, want := range [][]int{c.first, c.second} {
			if is, ok := impl.DependsOn(e, k); !ok || is != (want != nil) {
				t.Error("depends", c.e, k, is, ok)
			}
			if list, ok := impl.DependWitness(e, k); ok != (want != nil) || !sameNumbers(list, want) {
				t.Error("witness", c.e, k, list, ok)
			}
		}
		least, greatest, ok := impl.RangeOf(e)
		if !ok || least != c.least || greatest != c.greatest {
			t.Error("range", c.e, least, greatest, ok)
		}
		checkConstant(t, e, c.least, c.greatest)
		if is, ok := impl.IsSymmetric(e); !ok || is != c.symmetric {
			t.Error("symmetric", c.e, is, ok)
		}
	}
}

func checkConstant(t *testing.T, e []node, least int, greatest int) {
	t.Helper()
	n, ok := impl.ConstantOf(e)
	if least == greatest && (!ok || n != least) || least != greatest && (ok || n != 0) {
		t.Error("constant", e, n, ok)
	}
}

// TestPromise3RandomSingles holds what is told of an expression against values that are told independently.
func TestPromise3RandomSingles(t *testing.T) {
	d := dice(33)
	for range 60 {
		checkSingle(t, d.expr(1+d.below(12)))
		checkSingle(t, markedAt([]node{constant(d.below(64))}, d.below(64), d.below(64), 1+d.below(63)))
	}
}

func checkSingle(t *testing.T, e []node) {
	t.Helper()
	g := gridOf(e)
	var all []int
	symmetric := true
	for x0 := range 64 {
		all = append(all, g[x0][:]...)
		for x1 := range 64 {
			symmetric = symmetric && g[x0][x1] == g[x1][x0]
		}
	}
	slices.Sort(all)
	least, greatest, ok := impl.RangeOf(e)
	if !ok || least != all[0] || greatest != all[4095] {
		t.Error("range", e, least, greatest, ok)
	}
	checkConstant(t, e, all[0], all[4095])
	if is, ok := impl.IsSymmetric(e); !ok || is != symmetric {
		t.Error("symmetric", e, is, ok)
	}
	for k := range 2 {
		want := witnessIn(g, k)
		if is, ok := impl.DependsOn(e, k); !ok || is != (want != nil) {
			t.Error("depends", e, k, is, ok)
		}
		if list, ok := impl.DependWitness(e, k); ok != (want != nil) || !sameNumbers(list, want) {
			t.Error("witness", e, k, list, ok)
		}
	}
}

// TestSymmetricButForOnePair has an expression whose exchange changes the value for two pairs of inputs.
func TestSymmetricButForOnePair(t *testing.T) {
	sum := []node{in(0), in(1), two("add", 0, 1)}
	for _, x := range [][]int{{0, 63}, {63, 0}, {62, 63}, {0, 1}, {31, 32}} {
		if is, ok := impl.IsSymmetric(markedAt(sum, x[0], x[1], 32)); is || !ok {
			t.Error("symmetric", x, is, ok)
		}
		if is, ok := impl.IsSymmetric(markedAt(sum, x[0], x[0], 32)); !is || !ok {
			t.Error("not symmetric", x, is, ok)
		}
	}
}

func TestDependsFailsForOtherInputs(t *testing.T) {
	for _, text := range []string{"x0", "5", "add(x0,x1)"} {
		for _, k := range []int{-1, 2, 3, 63, math.MinInt, math.MaxInt} {
			if is, ok := impl.DependsOn(parsed(t, text), k); is || ok {
				t.Error("depends", text, k, is, ok)
			}
			if list, ok := impl.DependWitness(parsed(t, text), k); ok || len(list) != 0 {
				t.Error("witness", text, k, list, ok)
			}
		}
	}
}

func TestPromise3Classes(t *testing.T) {
	for _, c := range []struct {
		texts []string
		want  []int
	}{
		{[]string{"x0"}, []int{0}},
		{[]string{"x0", "x1"}, []int{0, 1}}, {[]string{"x1", "x1"}, []int{0, 0}},
		{[]string{"mul(x0,2)", "x1", "shl(x0,1)", "3", "add(x0,x0)", "eq(x0,x0)", "1", "add(1,2)"}, []int{0, 1, 0, 3, 0, 5, 5, 3}},
		{[]string{"0", "1", "2", "3", "4", "5", "6", "7"}, []int{0, 1, 2, 3, 4, 5, 6, 7}},
		{[]string{"x0", "x0", "x0", "x0", "x0", "x0", "x0", "not(not(x0))"}, []int{0, 0, 0, 0, 0, 0, 0, 0}},
		{[]string{"1", "0", "0", "1", "1", "0", "x0", "x0"}, []int{0, 1, 1, 0, 0, 1, 6, 6}},
		// Expressions that differ for the last inputs alone.
		{[]string{"0", "eq(and(x0,x1),63)", "less(62,and(x0,x1))", "less(x0,0)"}, []int{0, 1, 1, 0}},
	} {
		var list [][]node
		for _, text := range c.texts {
			list = append(list, parsed(t, text))
		}
		if classes, ok := impl.ClassesOf(list); !ok || !sameNumbers(classes, c.want) {
			t.Error("classes", c.texts, classes, ok)
		}
	}
}

func TestClassesOfFails(t *testing.T) {
	x := []node{in(0)}
	for _, list := range [][][]node{nil, {}, slices.Repeat([][]node{x}, 9), slices.Repeat([][]node{x}, 100)} {
		if classes, ok := impl.ClassesOf(list); ok || len(classes) != 0 {
			t.Error("classes", len(list), classes, ok)
		}
	}
	for _, bad := range invalidExprs() {
		for i := range 3 {
			list := [][]node{x, x, x}
			list[i] = bad
			if classes, ok := impl.ClassesOf(list); ok || len(classes) != 0 {
				t.Error("classes", list, classes, ok)
			}
		}
	}
}

// TestPromise3RandomClasses holds classes against AreEqual of all pairs.
func TestPromise3RandomClasses(t *testing.T) {
	d := dice(34)
	for range 60 {
		var list [][]node
		for range 1 + d.below(8) {
			list = append(list, d.expr(1+d.below(3)))
		}
		var want []int
		for i, e := range list {
			j := 0
			for gridOf(list[j]) != gridOf(e) {
				j++
			}
			if j > i {
				t.Fatal("no class", list)
			}
			want = append(want, j)
		}
		if classes, ok := impl.ClassesOf(list); !ok || !sameNumbers(classes, want) {
			t.Error("classes", list, classes, ok)
		}
	}
}
