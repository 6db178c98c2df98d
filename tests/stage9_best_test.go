package tests

import (
	"slices"
	"testing"

	"loop.example/g01127/impl"
)

func TestPromise9ExampleBest(t *testing.T) {
	code := codeOf(t, "mul r2 r0 r1", "addi r2 r2 1", "add r3 r0 r1")
	n, ok := impl.LeastLength(code, 1)
	checkNumber(t, n, ok, 5, "example")
	n, ok = impl.PathBound(code)
	checkNumber(t, n, ok, 5, "example")
	// Three instructions from the cycle 0 on, or one from the cycle 4 on.
	n, ok = impl.WideBound(code, 1)
	checkNumber(t, n, ok, 5, "example")
	checkBestSchedule(t, code, 1, []int{0, 4, 1})
	checkBestSchedule(t, code, 2, []int{0, 4, 0})
}

func TestPromise9BoundsByOne(t *testing.T) {
	muls := codeOf(t, "mul r2 r0 r1", "mul r3 r0 r1", "mul r4 r0 r1")
	readers := codeOf(t, "mul r2 r0 r1", "not r3 r2", "neg r4 r2", "mov r5 r2")
	for _, c := range []struct {
		code []instr
		path int
		wide [3]int
	}{
		{nil, 0, [3]int{0, 0, 0}}, {spread(1), 1, [3]int{1, 1, 1}}, {chainOf("shl", 1), 2, [3]int{2, 2, 2}}, {chainOf("mul", 1), 4, [3]int{4, 4, 4}},
		// The width bounds more than the path does. What does not fill a cycle needs one.
		{spread(2), 1, [3]int{2, 1, 1}}, {spread(3), 1, [3]int{3, 2, 1}}, {spread(4), 1, [3]int{4, 2, 2}}, {spread(5), 1, [3]int{5, 3, 2}}, {spread(6), 1, [3]int{6, 3, 2}},
		// The last one needs what the least cost is.
		{muls, 4, [3]int{6, 5, 4}}, {append(copyOfCode(muls), codeOf(t, "set r5 1")...), 4, [3]int{4, 2, 2}}, {append(copyOfCode(muls), codeOf(t, "shl r5 r0 r1")...), 4, [3]int{5, 3, 3}},
		// From a later cycle on there are fewer instructions, but they have to wait.
		{readers, 5, [3]int{7, 6, 5}}, {append(copyOfCode(readers), codeOf(t, "set r0 1", "set r1 1")...), 5, [3]int{7, 6, 5}},
		// The path bounds more: the width does not see what is behind the least cost, or between.
		{codeOf(t, "set r3 1", "mul r2 r0 r1"), 4, [3]int{2, 1, 1}}, {codeOf(t, "mul r2 r0 r1", "set r2 1"), 4, [3]int{2, 2, 2}},
		{codeOf(t, "mul r2 r0 r1", "set r2 1", "set r2 2"), 4, [3]int{3, 3, 3}}, {codeOf(t, "shl r2 r0 r1", "shl r3 r2 r2", "mul r4 r2 r2", "set r3 2"), 6, [3]int{5, 4, 4}},
		// All depend on each other.
		{counting(20), 20, [3]int{20, 20, 20}}, {chainOf("mul", 20), 80, [3]int{80, 80, 80}}, {chainOf("shl", 7), 14, [3]int{14, 14, 14}},
		// The delay 0 lets both begin in one cycle.
		{codeOf(t, "mov r2 r0", "set r0 1"), 1, [3]int{2, 1, 1}}, {codeOf(t, "mov r2 r0", "mul r0 r1 r1"), 4, [3]int{2, 1, 1}},
		{spread(20), 4, [3]int{20, 10, 7}},
	} {
		path, ok := impl.PathBound(c.code)
		checkNumber(t, path, ok, c.path, "path", codeLines(c.code))
		for k, want := range c.wide {
			bound, ok := impl.WideBound(c.code, k+1)
			checkNumber(t, bound, ok, want, "wide", codeLines(c.code), k+1)
		}
	}
}

func TestPromise9BestByOne(t *testing.T) {
	for _, c := range []struct {
		code []instr
		wide int
		want []int
	}{
		{nil, 1, nil}, {nil, 3, nil}, {spread(1), 1, []int{0}}, {chainOf("mul", 1), 2, []int{0}}, {chainOf("mul", 7), 1, upTo(7, 4)}, {counting(7), 3, upTo(7, 1)},
		{spread(6), 1, upTo(6, 1)}, {spread(7), 1, upTo(7, 1)}, {spread(7), 2, []int{0, 0, 1, 1, 2, 2, 3}}, {spread(7), 3, []int{0, 0, 0, 1, 1, 1, 2}},
		// Of several best ones the first is told: each instruction begins as early as it may without making it longer.
		{codeOf(t, "set r2 1", "mul r3 r0 r1"), 1, []int{1, 0}}, {codeOf(t, "set r2 1", "mul r3 r0 r1"), 2, []int{0, 0}}, {codeOf(t, "set r2 1", "set r3 1", "mul r4 r0 r1"), 1, []int{1, 2, 0}},
		{codeOf(t, "set r2 1", "set r3 1", "mul r4 r0 r1"), 2, []int{0, 1, 0}}, {codeOf(t, "shl r2 r0 r1", "mul r3 r0 r1", "set r4 1"), 1, []int{1, 0, 2}},
		{codeOf(t, "mul r2 r0 r1", "set r3 1", "not r4 r2"), 1, []int{0, 1, 4}},
		{codeOf(t, "set r2 1", "mul r3 r0 r1", "mul r4 r0 r1", "mul r5 r0 r1"), 1, []int{3, 0, 1, 2}},
		// A less high one begins before higher ones where they have time.
		{codeOf(t, "set r5 1", "shl r2 r0 r1", "set r3 1", "set r4 1"), 1, []int{0, 1, 2, 3}},
		{codeOf(t, "set r5 1", "shl r2 r0 r1", "shl r3 r0 r1", "not r0 r4", "not r1 r4"), 2, []int{0, 0, 1, 1, 2}},
	} {
		checkBestSchedule(t, c.code, c.wide, c.want)
	}
}

// TestPromise9BestIsShorterThanList has code for which the greatest height is no good choice.
func TestPromise9BestIsShorterThanList(t *testing.T) {
	for _, c := range []struct {
		code       []instr
		wide       int
		list, best []int
		less       int
	}{
		{codeOf(t, "shl r2 r0 r2", "shl r1 r4 r0", "shl r2 r1 r2", "shl r4 r1 r3"), 1, []int{0, 1, 3, 4}, []int{1, 0, 3, 2}, 1},
		{codeOf(t, "mul r4 r3 r4", "shl r0 r2 r2", "mov r4 r0", "or r2 r1 r0", "andi r1 r3 1"), 1, []int{0, 1, 3, 4, 5}, []int{1, 0, 2, 3, 4}, 1},
		{codeOf(t, "add r3 r1 r3", "mov r0 r0", "set r0 1", "shl r2 r2 r1", "xor r1 r2 r3", "set r2 1"), 2, []int{0, 1, 2, 0, 2, 3}, []int{1, 0, 1, 0, 2, 2}, 1},
		{codeOf(t, "set r0 1", "mul r5 r1 r3", "mul r0 r0 r1", "mov r4 r0", "mov r0 r5", "set r1 1", "mov r2 r3"), 1, []int{0, 1, 2, 6, 7, 3, 4}, []int{0, 2, 1, 5, 6, 3, 4}, 1},
	} {
		list, ok := impl.ListSchedule(c.code, c.wide)
		checkNumbers(t, list, ok, c.list, "list", codeLines(c.code), c.wide)
		checkBestSchedule(t, c.code, c.wide, c.best)
		if lengthByHand(c.code, list)-lengthByHand(c.code, c.best) != c.less {
			t.Error("lengths", codeLines(c.code), c.wide, list, c.best)
		}
	}
}

// TestPromise9BestMeetsTheLimit has code of MaxSearched instructions, and of one more.
func TestPromise9BestMeetsTheLimit(t *testing.T) {
	for n := range 42 {
		for _, code := range [][]instr{counting(n), spread(n)} {
			for wide := 1; wide <= 3; wide++ {
				cycles, ok := impl.BestSchedule(code, wide)
				length, fine := impl.LeastLength(code, wide)
				if ok != (n <= 7) || fine != ok || !ok && (len(cycles) > 0 || length != 0) || ok && len(cycles) != n {
					t.Error("best", n, wide, cycles, ok, length, fine)
				}
			}
		}
	}
}

// TestPromise9Best has schedules of all lengths tried, the shortest ones first.
func TestPromise9Best(t *testing.T) {
	d := dice(114)
	counts := map[string]int{}
	for k := range 450 {
		code, wide := d.linked(2+d.below(6), 3+k%4), 1+k%3
		best := bestByHand(code, wide)
		checkBestSchedule(t, code, wide, best)
		length := lengthByHand(code, best)
		switch path, bound := pathBoundByHand(code), wideBoundByHand(code, wide); {
		case path > bound:
			counts["path"]++
		case path < bound:
			counts["wide"]++
		}
		if len(allWithin(code, wide, length, 2)) > 1 {
			counts["several"]++
		}
		if !sameNumbers(listByHand(code, wide), best) {
			counts["other"]++
		}
		if length > max(pathBoundByHand(code), wideBoundByHand(code, wide)) {
			counts["above"]++
		}
		order, ok := impl.OrderOfSchedule(code, best)
		if !ok || !isOrderByHand(code, order) {
			t.Error("order", codeLines(code), best, order, ok)
		}
		checkDoesTheSame(t, code, order, d.words())
	}
	for _, name := range []string{"path", "wide", "several", "other", "above"} {
		if counts[name] < 20 {
			t.Error(name, counts)
		}
	}
}

// TestPromise9NoScheduleIsShorter has all schedules within the length that is told, of which none is shorter.
func TestPromise9NoScheduleIsShorter(t *testing.T) {
	d := dice(115)
	for k := range 200 {
		code, wide := d.linked(1+d.below(4), 2+k%5), 1+k%3
		length, ok := impl.LeastLength(code, wide)
		all := allWithin(code, wide, length, 1000)
		if !ok || len(all) == 0 || len(allWithin(code, wide, length-1, 1)) > 0 {
			t.Error("least", codeLines(code), wide, length, ok, all)
		}
		best, ok := impl.BestSchedule(code, wide)
		checkNumbers(t, best, ok, slices.MinFunc(all, slices.Compare), codeLines(code), wide)
		for _, cycles := range all {
			is, ok := impl.IsSchedule(code, wide, cycles)
			checkBool(t, is, ok, true, codeLines(code), wide, cycles)
			n, ok := impl.LengthOf(code, cycles)
			checkNumber(t, n, ok, length, codeLines(code), wide, cycles)
		}
	}
}
