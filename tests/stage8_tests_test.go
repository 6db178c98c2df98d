package tests

import (
	"slices"
	"strings"
	"testing"

	"loop.example/g01127/impl"
)

// checkTests wants these inputs for blocks.
func checkTests(t *testing.T, blocks [][]instr, r int, want [][]int) {
	t.Helper()
	tests, ok := impl.TestsFor(blocks, r)
	if !ok || !sameLists(tests, want) {
		t.Error("tests", blocks, r, tests, ok, want)
	}
}

// blocksOf returns blocks of texts that have commas between the instructions of a block.
func blocksOf(t *testing.T, texts ...string) [][]instr {
	t.Helper()
	var blocks [][]instr
	for _, text := range texts {
		if text == "" {
			blocks = append(blocks, nil)
			continue
		}
		blocks = append(blocks, codeOf(t, strings.Split(text, ",")...))
	}
	return blocks
}

func TestPromise8TestsByOne(t *testing.T) {
	for _, c := range []struct {
		blocks []string
		r      int
		want   [][]int
	}{
		// One block, and blocks that leave the same.
		{[]string{""}, 0, nil}, {[]string{"add r2 r0 r1"}, 2, nil}, {[]string{"", "", "", "", "", ""}, 2, nil},
		{[]string{"shli r2 r0 1", "add r2 r0 r0", "add r2 r0 r0,mov r2 r2"}, 2, nil}, {[]string{"set r2 1", "set r2 2"}, 3, nil},
		{[]string{"sub r2 r0 r1", "sub r2 r1 r0"}, 2, [][]int{{0, 1}}}, {[]string{"sub r2 r0 r1", "sub r2 r1 r0"}, 0, nil},
		// The first inputs tell all pairs apart.
		{[]string{"set r2 0", "set r2 1", "set r2 2", "set r2 3", "set r2 4", "set r2 5"}, 2, [][]int{{0, 0}}},
		// They are in the order in which they are found.
		{[]string{"", "mov r2 r0", "mov r2 r1"}, 2, [][]int{{1, 0}, {0, 1}}}, {[]string{"", "mov r2 r1", "mov r2 r0"}, 2, [][]int{{0, 1}, {1, 0}}},
		{[]string{"mov r2 r0", "", "mov r2 r1"}, 2, [][]int{{1, 0}, {0, 1}}}, {[]string{"mov r2 r0", "mov r2 r1", ""}, 2, [][]int{{0, 1}, {1, 0}}},
		{[]string{"mov r2 r1", "mov r2 r0", ""}, 2, [][]int{{0, 1}, {1, 0}}},
		// A pair that is told apart by what was found before needs nothing, one that is not has its own first inputs.
		{[]string{"", "and r2 r0 r1", "mov r2 r0"}, 2, [][]int{{1, 1}, {1, 0}}}, {[]string{"", "mov r2 r0", "and r2 r0 r1"}, 2, [][]int{{1, 0}, {1, 1}}},
		{[]string{"", "shri r2 r0 5", "shri r2 r0 4", "shri r2 r0 3"}, 2, [][]int{{32, 0}}},
		{[]string{"shri r2 r0 3", "shri r2 r0 4", "shri r2 r0 5", ""}, 2, [][]int{{8, 0}, {16, 0}, {32, 0}}},
		{[]string{"mov r2 r0", "mov r2 r0", "mov r2 r1", "mov r2 r1", "", ""}, 2, [][]int{{0, 1}, {1, 0}}},
		{[]string{"", "not r0 r0,not r0 r0", "set r0 5"}, 0, [][]int{{0, 0}}},
	} {
		checkTests(t, blocksOf(t, c.blocks...), c.r, c.want)
	}
}

// TestPromise8MarkedTests has MaxBlocks blocks each of which differs from the first one for its own inputs alone, the last ones among them.
func TestPromise8MarkedTests(t *testing.T) {
	blocks := [][]instr{codeOf(t, "set r2 0")}
	places := [][]int{{63, 63}, {0, 0}, {0, 63}, {63, 0}, {17, 4}}
	for _, at := range places {
		blocks = append(blocks, marking(at[0], at[1]))
	}
	checkTests(t, blocks, 2, places)
	// Without the block that leaves 0, the first pair is told apart by the less one of its places.
	checkTests(t, blocks[1:], 2, [][]int{{0, 0}, {0, 63}, {63, 0}, {17, 4}})
	checkTests(t, append(blocks[3:6:6], blocks[0]), 2, [][]int{{0, 63}, {17, 4}, {63, 0}})
}

// testsByHand tells the inputs that tell columns apart.
func testsByHand(columns []*column) [][]int {
	var found []int
	for i := range columns {
		for j := i + 1; j < len(columns); j++ {
			differs := func(at int) bool { return columns[i][at] != columns[j][at] }
			if slices.ContainsFunc(found, differs) {
				continue
			}
			for at := range 4096 {
				if differs(at) {
					found = append(found, at)
					break
				}
			}
		}
	}
	var tests [][]int
	for _, at := range found {
		tests = append(tests, []int{at / 64, at % 64})
	}
	return tests
}

// TestPromise8Tests holds the tests for any blocks against all runs; blocks pass them if and only if they leave the same for all inputs.
func TestPromise8Tests(t *testing.T) {
	d := dice(105)
	words := stepper{}
	counts := map[int]int{}
	for range 200 {
		var blocks [][]instr
		code := d.code(d.below(9))
		for range 1 + d.below(6) {
			blocks = append(blocks, d.variant(code))
			if d.below(4) == 0 {
				code = d.variant(code)
			}
		}
		for r := range 6 {
			var columns []*column
			for _, block := range blocks {
				columns = append(columns, words.blockColumns(block)[r])
			}
			tests := testsByHand(columns)
			counts[len(tests)]++
			checkTests(t, blocks, r, tests)
			for i, a := range blocks {
				for j, b := range blocks {
					checkPasses(t, a, b, r, tests, *columns[i] == *columns[j])
				}
			}
		}
	}
	if counts[0] < 300 || counts[1] < 100 || counts[2] < 10 {
		t.Error("counts", counts)
	}
}

// checkPasses wants two blocks to pass tests, or not.
func checkPasses(t *testing.T, a []instr, b []instr, r int, tests [][]int, want bool) {
	t.Helper()
	is, ok := impl.PassesTests(a, b, r, tests)
	if !ok || is != want {
		t.Error("passes", codeLines(a), "|", codeLines(b), r, tests, is, ok, want)
	}
}

func TestPromise8PassesByOne(t *testing.T) {
	a, b := codeOf(t, "sub r2 r0 r1"), codeOf(t, "sub r2 r1 r0")
	for _, c := range []struct {
		r     int
		tests [][]int
		want  bool
	}{
		{2, nil, true}, {2, [][]int{}, true}, {2, [][]int{{0, 0}}, true}, {2, [][]int{{63, 63}, {5, 5}}, true}, {2, [][]int{{0, 1}}, false},
		{2, [][]int{{1, 0}}, false}, {2, [][]int{{0, 32}, {40, 8}, {63, 31}}, true}, {2, [][]int{{0, 0}, {3, 3}, {63, 0}}, false}, {2, [][]int{{63, 0}, {0, 0}, {3, 3}}, false},
		{0, [][]int{{63, 0}, {0, 1}}, true}, {3, [][]int{{63, 0}, {0, 1}}, true}, {2, [][]int{{7, 7}, {7, 7}}, true},
	} {
		checkPasses(t, a, b, c.r, c.tests, c.want)
		checkPasses(t, b, a, c.r, c.tests, c.want)
		checkPasses(t, a, a, c.r, c.tests, true)
	}
	checkPasses(t, nil, nil, 0, [][]int{{1, 2}}, true)
	checkPasses(t, nil, codeOf(t, "mov r0 r1"), 0, [][]int{{1, 2}}, false)
	checkPasses(t, nil, codeOf(t, "mov r0 r1"), 0, [][]int{{2, 2}}, true)
	// The other registers are 0 at first.
	checkPasses(t, nil, codeOf(t, "mov r0 r5"), 0, [][]int{{0, 9}}, true)
}

// TestPromise8PassesMeetsTheLimit has MaxSwaps inputs, and one more, and inputs that are none behind such that tell blocks apart.
func TestPromise8PassesMeetsTheLimit(t *testing.T) {
	a, b := marking(1, 35), codeOf(t, "set r2 0")
	var tests [][]int
	for i := range 101 {
		tests = append(tests, []int{i / 64, i % 64})
	}
	checkPasses(t, a, b, 2, tests[:99], true)
	checkPasses(t, a, b, 2, tests[:100], false)
	checkPasses(t, a, a, 2, tests[:100], true)
	for _, other := range [][]instr{a, b} {
		is, ok := impl.PassesTests(a, other, 2, tests)
		checkZero(t, "PassesTests", []any{is, ok}, len(tests))
		for _, bad := range invalidTests() {
			for _, list := range [][][]int{{bad}, {{1, 35}, bad}, {bad, {1, 35}}, append(slices.Clone(tests[:99]), bad)} {
				is, ok := impl.PassesTests(a, other, 2, list)
				checkZero(t, "PassesTests", []any{is, ok}, list)
			}
		}
	}
}
