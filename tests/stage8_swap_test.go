package tests

import (
	"slices"
	"testing"

	"loop.example/g01127/impl"
)

// checkPath wants this path from a to b, which leads there, or none if it does not exist.
func checkPath(t *testing.T, a []instr, b []instr, want []int, exists bool) {
	t.Helper()
	path, ok := impl.SwapPath(a, b)
	if ok != exists || !sameNumbers(path, want) {
		t.Error("path", codeLines(a), "|", codeLines(b), path, ok, want, exists)
	}
	if exists {
		checkFollowed(t, a, want, b)
	}
}

func checkFollowed(t *testing.T, code []instr, path []int, want []instr) {
	t.Helper()
	if followed, ok := impl.FollowPath(code, path); !ok || !sameCode(followed, want) {
		t.Error("followed", codeLines(code), path, codeLines(followed), ok, codeLines(want))
	}
}

func checkNotFollowed(t *testing.T, code []instr, path []int) {
	t.Helper()
	if followed, ok := impl.FollowPath(code, path); ok || len(followed) > 0 {
		t.Error("followed", codeLines(code), path, codeLines(followed), ok)
	}
}

// lettered returns instructions that are told by letters: those of a to f set a register each, the other ones are as told.
func lettered(t *testing.T, letters string) []instr {
	t.Helper()
	var code []instr
	for _, letter := range letters {
		switch letter {
		case 'A': // It writes what c does.
			code = append(code, codeOf(t, "addi r2 r0 9")...)
		case 'R': // It reads what d writes.
			code = append(code, codeOf(t, "not r2 r3")...)
		case 'M': // It reads and writes what e writes.
			code = append(code, codeOf(t, "neg r4 r4")...)
		default:
			code = append(code, instr{Op: "set", Dst: int(letter - 'a'), Imm: 1})
		}
	}
	return code
}

func TestPromise8PathsByOne(t *testing.T) {
	for _, c := range []struct {
		a, b string
		want []int
		ok   bool
	}{
		{"", "", nil, true}, {"a", "a", nil, true}, {"abc", "abc", nil, true}, {"aa", "aa", nil, true}, {"cAcA", "cAcA", nil, true},
		{"ab", "ba", []int{0}, true}, {"abc", "acb", []int{1}, true}, {"abc", "cab", []int{1, 0}, true}, {"abc", "bca", []int{0, 1}, true}, {"abc", "cba", []int{1, 0, 1}, true},
		{"abcdef", "fabcde", []int{4, 3, 2, 1, 0}, true}, {"abcd", "dcba", []int{2, 1, 0, 2, 1, 2}, true}, {"abcd", "badc", []int{0, 2}, true},
		// Equal instructions: the first one that is there is moved, so that none of them has to pass another.
		{"aab", "aba", []int{1}, true}, {"aab", "baa", []int{1, 0}, true}, {"baa", "aab", []int{0, 1}, true}, {"abab", "baba", []int{0, 2}, true},
		{"abab", "aabb", []int{1}, true}, {"aabb", "bbaa", []int{1, 0, 2, 1}, true}, {"cAcb", "bcAc", []int{2, 1, 0}, true},
		// Other instructions, or another number of them.
		{"a", "", nil, false}, {"", "a", nil, false}, {"a", "b", nil, false}, {"ab", "aa", nil, false}, {"aab", "abb", nil, false}, {"ab", "abc", nil, false}, {"abc", "ab", nil, false},
		{"abc", "abd", nil, false}, {"aa", "a", nil, false}, {"ab", "cd", nil, false},
		// Swaps that are not allowed: the same register is written, or what the other one writes is read.
		{"cA", "Ac", nil, false}, {"bcA", "bAc", nil, false}, {"dR", "Rd", nil, false}, {"Rd", "dR", nil, false}, {"eM", "Me", nil, false}, {"aA", "Aa", nil, false},
		{"dRb", "bdR", []int{1, 0}, true}, {"dRb", "bRd", nil, false}, {"eMeM", "eMMe", nil, false}, {"eMaR", "aReM", []int{1, 0, 2, 1}, true},
		{"cAcA", "ccAA", nil, false}, {"cAcA", "AcAc", nil, false},
	} {
		checkPath(t, lettered(t, c.a), lettered(t, c.b), c.want, c.ok)
	}
	// Instructions that differ in one number are different.
	checkPath(t, codeOf(t, "set r2 1"), codeOf(t, "set r2 2"), nil, false)
	checkPath(t, codeOf(t, "set r2 1", "set r3 1"), codeOf(t, "set r3 1", "set r2 2"), nil, false)
	checkPath(t, codeOf(t, "add r2 r0 r1"), codeOf(t, "add r2 r1 r0"), nil, false)
}

// TestPromise8PathsMeetTheLimit has blocks of 20 instructions that 99 to 101 swaps and more lead from one to another.
func TestPromise8PathsMeetTheLimit(t *testing.T) {
	two, three, one := setting(2, 10), setting(3, 9), setting(4, 1)
	for n := range 20 {
		// Nine instructions pass ten others, and one passes n of all.
		a := slices.Insert(slices.Concat(two, three), n, one...)
		b := slices.Concat(one, three, two)
		want, ok := pathByHand(a, b)
		if len(want) != 90+n || ok != (n <= 10) {
			t.Fatal("by hand", n, len(want), ok)
		}
		if !ok {
			want = nil
		}
		checkPath(t, a, b, want, ok)
		checkPath(t, b, b, nil, true)
	}
	checkPath(t, slices.Concat(setting(2, 10), setting(3, 10)), slices.Concat(setting(3, 10), setting(2, 10)), tenByTen(), true)
	// The last swap that is one too many is not made, nor is any one behind it.
	long := slices.Concat(setting(0, 4), setting(1, 4), setting(2, 3), setting(3, 3), setting(4, 3), setting(5, 3))
	turned := slices.Concat(setting(5, 3), setting(4, 3), setting(3, 3), setting(2, 3), setting(1, 4), setting(0, 4))
	checkPath(t, long, turned, nil, false)
}

// tenByTen has the swaps that move ten instructions before ten others.
func tenByTen() []int {
	var path []int
	for k := range 10 {
		for i := range 10 {
			path = append(path, 9+k-i)
		}
	}
	return path
}

func TestPromise8FollowedByOne(t *testing.T) {
	for _, c := range []struct {
		code string
		path []int
		want string
	}{
		{"", nil, ""}, {"a", nil, "a"}, {"abc", nil, "abc"}, {"abc", []int{}, "abc"}, {"ab", []int{0}, "ba"}, {"ab", []int{0, 0}, "ab"}, {"abc", []int{0, 1}, "bca"},
		{"abc", []int{1, 0}, "cab"}, {"abcdef", []int{0, 2, 4}, "badcfe"}, {"abcdef", []int{4, 3, 2, 1, 0}, "fabcde"}, {"dRb", []int{1, 0}, "bdR"}, {"aab", []int{1, 0, 0}, "aba"},
		{"abc", []int{0, 1, 0, 1, 0, 1}, "abc"},
	} {
		checkFollowed(t, lettered(t, c.code), c.path, lettered(t, c.want))
	}
	for _, c := range []struct {
		code string
		path []int
	}{
		{"", []int{0}}, {"a", []int{0}}, {"ab", []int{1}}, {"ab", []int{-1}}, {"ab", []int{0, 1}}, {"abc", []int{2}}, {"abc", []int{0, 1, 2}}, {"abc", []int{0, -1, 0}},
		{"aa", []int{0}}, {"cA", []int{0}}, {"dR", []int{0}}, {"Rd", []int{0}}, {"eM", []int{0}}, {"aA", []int{0}},
		// What is allowed depends on the swaps before.
		{"dRb", []int{1, 1, 0}}, {"dRb", []int{1, 0, 1}}, {"dRb", []int{0, 1}}, {"dbR", []int{0, 1}},
	} {
		checkNotFollowed(t, lettered(t, c.code), c.path)
	}
	checkFollowed(t, lettered(t, "dbR"), []int{0, 0}, lettered(t, "dbR"))
}

// TestPromise8FollowedMeetsTheLimit has paths of MaxSwaps swaps, and of one more.
func TestPromise8FollowedMeetsTheLimit(t *testing.T) {
	code, turned := lettered(t, "ab"), lettered(t, "ba")
	checkFollowed(t, code, make([]int, 99), turned)
	checkFollowed(t, code, make([]int, 100), code)
	checkNotFollowed(t, code, make([]int, 101))
	checkNotFollowed(t, code, make([]int, 1000))
	checkNotFollowed(t, code, append(make([]int, 99), 1))
	long := append(lettered(t, "ab"), wide(18)...)
	checkFollowed(t, long, make([]int, 99), append(lettered(t, "ba"), wide(18)...))
	checkFollowed(t, slices.Concat(wide(18), lettered(t, "ab")), []int{18}, slices.Concat(wide(18), lettered(t, "ba")))
	checkNotFollowed(t, slices.Concat(wide(18), lettered(t, "ab")), []int{19})
}

// TestPromise8Paths has any code, that which swaps make of it, and that which something else does.
func TestPromise8Paths(t *testing.T) {
	d := dice(106)
	counts := map[bool]int{}
	for k := range 1000 {
		a := d.code(d.below(13))
		if k%3 == 0 {
			a = append(a, a[:d.below(len(a)+1)]...)
			a = a[:min(len(a), 20)]
		}
		b := d.mixed(a, 3*len(a))
		switch i, j := d.below(len(a)+1), d.below(len(a)+1); {
		case k%4 == 0 && i < len(a) && j < len(a):
			b[i], b[j] = b[j], b[i]
		case k%16 == 1 && i < len(a):
			b[i] = d.instr()
		}
		want, ok := pathByHand(a, b)
		if !ok {
			want = nil
		}
		counts[ok && len(want) > 0]++
		checkPath(t, a, b, want, ok)
		checkPath(t, a, a, nil, true)
		if ok {
			checkVerdictOfPath(t, a, b)
		}
		path := make([]int, d.below(4))
		for i := range path {
			path[i] = d.below(len(a) + 1)
		}
		checkFollowedByHand(t, a, path)
	}
	if counts[true] < 500 || counts[false] < 100 {
		t.Error("counts", counts)
	}
}

// checkVerdictOfPath wants blocks between which swaps lead to leave the same everywhere, and to be alike if this is told.
func checkVerdictOfPath(t *testing.T, a []instr, b []instr) {
	t.Helper()
	verdict, ok := impl.VerdictOf(a, b, allOut)
	_, told := impl.AreAlike(a, b, allOut)
	if !ok || verdict != map[bool]string{true: "alike", false: "same"}[told] {
		t.Error("verdict", codeLines(a), "|", codeLines(b), verdict, ok)
	}
}

// checkFollowedByHand makes the swaps of a path, or finds one that is not allowed.
func checkFollowedByHand(t *testing.T, code []instr, path []int) {
	t.Helper()
	want := copyOfCode(code)
	for _, i := range path {
		if i+1 >= len(code) || !areApartByHand(want[i], want[i+1]) {
			checkNotFollowed(t, code, path)
			return
		}
		want[i], want[i+1] = want[i+1], want[i]
	}
	checkFollowed(t, code, path, want)
}
