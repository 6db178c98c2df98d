package tests

import (
	"cmp"
	"slices"
	"testing"

	"loop.example/g01127/impl"
)

func TestPromise9ExampleSchedules(t *testing.T) {
	code := codeOf(t, "mul r2 r0 r1", "addi r2 r2 1", "add r3 r0 r1")
	list, ok := impl.ListSchedule(code, 1)
	checkNumbers(t, list, ok, []int{0, 4, 1}, "example")
	n, ok := impl.LengthOf(code, list)
	checkNumber(t, n, ok, 5, "example")
	order, ok := impl.OrderOfSchedule(code, list)
	checkNumbers(t, order, ok, []int{0, 2, 1}, "example")
	early, ok := impl.EarliestOf(code)
	checkNumbers(t, early, ok, []int{0, 4, 0}, "example")
	late, ok := impl.LatestOf(code, 5)
	checkNumbers(t, late, ok, []int{0, 4, 4}, "example")
}

func TestPromise9SchedulesByOne(t *testing.T) {
	example := codeOf(t, "mul r2 r0 r1", "addi r2 r2 1", "add r3 r0 r1")
	// The second one waits for nothing but that the first one has read; the third one waits a cycle for it.
	delayed := codeOf(t, "mov r2 r0", "set r0 1", "set r0 2")
	shifted := codeOf(t, "shl r2 r0 r1", "mov r3 r2")
	for _, c := range []struct {
		code   []instr
		wide   int
		cycles []int
		want   bool
	}{
		{nil, 1, nil, true}, {nil, 3, []int{}, true}, {spread(1), 1, []int{0}, true}, {spread(1), 1, []int{100}, true}, {spread(1), 1, []int{101}, false}, {spread(1), 1, []int{-1}, false},
		{example, 1, []int{0, 4, 1}, true}, {example, 1, []int{0, 4, 3}, true}, {example, 1, []int{1, 5, 0}, true}, {example, 1, []int{96, 100, 0}, true}, {example, 1, []int{0, 100, 99}, true},
		// A cycle that is one too early, or much.
		{example, 1, []int{0, 3, 1}, false}, {example, 1, []int{1, 4, 0}, false}, {example, 3, []int{0, 3, 0}, false}, {example, 3, []int{4, 0, 0}, false}, {example, 1, []int{97, 100, 0}, false},
		{shifted, 1, []int{5, 7}, true}, {shifted, 1, []int{5, 6}, false}, {shifted, 3, []int{5, 5}, false},
		// One more instruction in a cycle than the width, and as many.
		{example, 1, []int{0, 4, 0}, false}, {example, 1, []int{0, 4, 4}, false}, {example, 2, []int{0, 4, 0}, true}, {example, 2, []int{0, 4, 4}, true},
		{spread(3), 2, []int{7, 7, 7}, false}, {spread(3), 3, []int{7, 7, 7}, true}, {spread(3), 2, []int{7, 8, 7}, true}, {spread(3), 1, []int{7, 8, 7}, false}, {spread(3), 1, []int{9, 8, 7}, true},
		{spread(4), 3, []int{0, 0, 0, 0}, false}, {spread(4), 3, []int{0, 0, 1, 0}, true}, {spread(6), 3, []int{1, 0, 1, 0, 1, 0}, true}, {spread(6), 2, []int{1, 0, 1, 0, 1, 0}, false},
		{spread(6), 3, []int{100, 100, 100, 0, 0, 0}, true}, {spread(6), 3, []int{100, 100, 100, 100, 0, 0}, false}, {spread(6), 3, []int{0, 0, 0, 100, 100, 101}, false},
		// The delay 0 allows the same cycle, but none before.
		{delayed, 2, []int{0, 0, 1}, true}, {delayed, 1, []int{0, 0, 1}, false}, {delayed, 1, []int{0, 1, 2}, true}, {delayed, 2, []int{0, 0, 0}, false}, {delayed, 2, []int{1, 0, 1}, false},
		{delayed, 3, []int{1, 0, 1}, false}, {delayed, 3, []int{5, 5, 5}, false}, {delayed, 3, []int{5, 5, 6}, true}, {delayed, 3, []int{5, 6, 5}, false},
		// All depend on each other: a cycle apart.
		{counting(20), 1, upTo(20, 1), true}, {counting(20), 3, slices.Repeat([]int{0}, 20), false}, {counting(20), 3, append(upTo(19, 1), 18), false}, {counting(3), 3, []int{98, 99, 100}, true},
		{chainOf("mul", 20), 1, upTo(20, 4), true}, {chainOf("mul", 20), 1, append(upTo(19, 4), 75), false}, {chainOf("mul", 20), 1, upTo(20, 5), true}, {chainOf("mul", 20), 1, upTo(20, 6), false},
	} {
		is, ok := impl.IsSchedule(c.code, c.wide, c.cycles)
		checkBool(t, is, ok, c.want, codeLines(c.code), c.wide, c.cycles)
	}
	for _, bad := range append([]int{101, -2, 200}, extremes...) {
		if bad < 0 || bad > 100 {
			for _, cycles := range [][]int{{bad, 4, 1}, {0, bad, 1}, {0, 4, bad}, {bad, bad, bad}} {
				is, ok := impl.IsSchedule(example, 3, cycles)
				checkBool(t, is, ok, false, cycles)
			}
		}
	}
}

func TestPromise9LengthsByOne(t *testing.T) {
	example := codeOf(t, "mul r2 r0 r1", "addi r2 r2 1", "add r3 r0 r1")
	costs := codeOf(t, "set r2 1", "shl r3 r0 r1", "mul r4 r0 r1")
	for _, c := range []struct {
		code   []instr
		cycles []int
		want   int
	}{
		{nil, nil, 0}, {spread(1), []int{0}, 1}, {spread(1), []int{100}, 101}, {chainOf("shr", 1), []int{3}, 5}, {chainOf("mul", 1), []int{0}, 4}, {chainOf("mul", 1), []int{100}, 104},
		{example, []int{0, 4, 1}, 5}, {example, []int{0, 4, 4}, 5}, {example, []int{0, 4, 5}, 6}, {example, []int{2, 6, 0}, 7},
		// The last one that begins need not be the last one that ends.
		{costs, []int{0, 0, 0}, 4}, {costs, []int{3, 2, 0}, 4}, {costs, []int{4, 2, 0}, 5}, {costs, []int{3, 3, 0}, 5}, {costs, []int{2, 1, 0}, 4}, {costs, []int{0, 1, 2}, 6},
		// Cycles that are no schedule have a length.
		{example, []int{0, 0, 0}, 4}, {example, []int{100, 0, 0}, 104}, {counting(20), slices.Repeat([]int{7}, 20), 8}, {spread(20), slices.Repeat([]int{100}, 20), 101},
	} {
		n, ok := impl.LengthOf(c.code, c.cycles)
		checkNumber(t, n, ok, c.want, codeLines(c.code), c.cycles)
	}
}

func TestPromise9EarlyAndLateByOne(t *testing.T) {
	for _, c := range []struct {
		code  []instr
		early []int
		path  int
		late  []int
	}{
		{nil, nil, 0, nil}, {spread(1), []int{0}, 1, []int{0}}, {chainOf("shl", 1), []int{0}, 2, []int{0}}, {chainOf("mul", 1), []int{0}, 4, []int{0}},
		{spread(6), []int{0, 0, 0, 0, 0, 0}, 1, []int{0, 0, 0, 0, 0, 0}},
		{spread(8), []int{0, 0, 0, 0, 0, 0, 1, 1}, 2, []int{0, 0, 1, 1, 1, 1, 1, 1}},
		{counting(20), upTo(20, 1), 20, upTo(20, 1)}, {chainOf("mul", 20), upTo(20, 4), 80, upTo(20, 4)}, {chainOf("shl", 3), []int{0, 2, 4}, 6, []int{0, 2, 4}},
		{codeOf(t, "mul r2 r0 r1", "addi r2 r2 1", "add r3 r0 r1"), []int{0, 4, 0}, 5, []int{0, 4, 4}},
		// The second one may begin with the first one, so that its cost is what counts.
		{codeOf(t, "mov r2 r0", "mul r0 r1 r1"), []int{0, 0}, 4, []int{0, 0}},
		{codeOf(t, "mul r2 r0 r1", "set r0 1"), []int{0, 0}, 4, []int{0, 3}},
		{codeOf(t, "mul r2 r0 r1", "set r0 1", "mov r3 r0"), []int{0, 0, 1}, 4, []int{0, 2, 3}},
		// The same register is written again before the first one has ended.
		{codeOf(t, "mul r2 r0 r1", "set r2 1", "mov r3 r2"), []int{0, 1, 2}, 4, []int{0, 2, 3}},
		{codeOf(t, "set r2 1", "mul r2 r0 r1"), []int{0, 1}, 5, []int{0, 1}},
		// The greatest of several ways counts, in both directions.
		{codeOf(t, "mul r2 r0 r1", "set r3 1", "add r4 r2 r3", "shl r5 r4 r3"), []int{0, 0, 4, 5}, 7, []int{0, 3, 4, 5}},
		{codeOf(t, "set r2 1", "mul r3 r2 r2", "not r4 r2", "mov r5 r3"), []int{0, 1, 1, 5}, 6, []int{0, 1, 5, 5}},
	} {
		early, ok := impl.EarliestOf(c.code)
		checkNumbers(t, early, ok, c.early, "early", codeLines(c.code))
		path, ok := impl.PathBound(c.code)
		checkNumber(t, path, ok, c.path, "path", codeLines(c.code))
		late, ok := impl.LatestOf(c.code, c.path)
		checkNumbers(t, late, ok, c.late, "late", codeLines(c.code), c.path)
		checkLater(t, c.code, c.path, c.late)
	}
}

// checkLater wants no cycles for a length that is less than that which just suffices, and greater ones by what it is more.
func checkLater(t *testing.T, code []instr, path int, late []int) {
	t.Helper()
	for length := -1; length <= 101; length++ {
		var want []int
		for _, c := range late {
			want = append(want, c+length-path)
		}
		suffices := length >= path && length <= 100
		if !suffices {
			want = nil
		}
		if list, ok := impl.LatestOf(code, length); ok != suffices || !sameNumbers(list, want) {
			t.Error("late", codeLines(code), length, list, ok, want)
		}
	}
}

func TestPromise9ListsByOne(t *testing.T) {
	for _, c := range []struct {
		code []instr
		wide int
		want []int
	}{
		{nil, 1, nil}, {nil, 3, nil}, {spread(1), 1, []int{0}}, {chainOf("mul", 1), 3, []int{0}},
		{codeOf(t, "mul r2 r0 r1", "addi r2 r2 1", "add r3 r0 r1"), 2, []int{0, 4, 0}},
		// Heights are equal: the least index begins.
		{spread(6), 1, upTo(6, 1)}, {spread(6), 2, []int{0, 0, 1, 1, 2, 2}}, {spread(6), 3, []int{0, 0, 0, 1, 1, 1}},
		{codeOf(t, "set r0 1", "shl r1 r2 r3", "shr r2 r3 r3", "shl r4 r5 r5"), 1, []int{3, 0, 1, 2}},
		// The greatest height begins, and is that of all that is behind.
		{codeOf(t, "set r0 1", "mul r2 r1 r1"), 1, []int{1, 0}}, {codeOf(t, "shl r0 r1 r1", "set r2 1", "mul r3 r2 r2"), 1, []int{2, 0, 1}},
		{codeOf(t, "mul r0 r1 r1", "set r2 1", "not r2 r2", "not r2 r2", "not r2 r2", "not r2 r2"), 1, []int{1, 0, 2, 3, 4, 5}},
		// What depends with the delay 0 begins in the same cycle, if there is room, even if it is higher.
		{codeOf(t, "mov r2 r0", "set r0 1"), 2, []int{0, 0}}, {codeOf(t, "mov r2 r0", "set r0 1"), 1, []int{0, 1}},
		{codeOf(t, "mov r2 r0", "mul r0 r1 r1", "mov r3 r1", "set r1 1"), 3, []int{0, 0, 0, 1}},
		{codeOf(t, "mov r2 r0", "mul r0 r1 r1", "mov r3 r1", "set r1 1"), 2, []int{0, 0, 1, 1}},
		{codeOf(t, "mov r2 r0", "mov r0 r1", "mov r1 r3", "mov r3 r4"), 3, []int{0, 0, 0, 1}},
		// A cycle remains empty as long as nothing may begin.
		{chainOf("mul", 3), 3, []int{0, 4, 8}}, {chainOf("mul", 20), 1, upTo(20, 4)}, {counting(20), 3, upTo(20, 1)}, {spread(20), 3, listByHand(spread(20), 3)},
		{codeOf(t, "mul r2 r0 r1", "set r2 1", "mov r3 r2"), 1, []int{0, 1, 2}}, {codeOf(t, "shl r2 r0 r1", "mov r3 r2", "mov r4 r2"), 2, []int{0, 2, 2}},
		// One begins as soon as it may, though a higher one behind it has to wait then.
		{codeOf(t, "set r0 1", "shl r1 r0 r0", "set r2 2", "shl r3 r0 r0"), 1, []int{0, 1, 3, 2}},
	} {
		list, ok := impl.ListSchedule(c.code, c.wide)
		checkNumbers(t, list, ok, c.want, codeLines(c.code), c.wide)
	}
}

func TestPromise9OrdersOfSchedulesByOne(t *testing.T) {
	for _, c := range []struct {
		code   []instr
		cycles []int
		want   []int
	}{
		{nil, nil, nil}, {spread(1), []int{0}, []int{0}}, {spread(1), []int{100}, []int{0}}, {spread(3), []int{2, 1, 0}, []int{2, 1, 0}}, {spread(3), []int{100, 0, 50}, []int{1, 2, 0}},
		// Equal cycles leave the indices as they are.
		{spread(3), []int{0, 0, 0}, []int{0, 1, 2}}, {spread(4), []int{1, 0, 1, 0}, []int{1, 3, 0, 2}}, {spread(6), []int{3, 3, 0, 0, 3, 0}, []int{2, 3, 5, 0, 1, 4}},
		{codeOf(t, "mov r2 r0", "set r0 1"), []int{5, 5}, []int{0, 1}}, {spread(20), slices.Repeat([]int{9}, 20), upTo(20, 1)}, {spread(20), slices.Repeat([]int{9, 8}, 10), []int{1, 3, 5, 7, 9, 11, 13, 15, 17, 19, 0, 2, 4, 6, 8, 10, 12, 14, 16, 18}},
		// Cycles that are no schedule are ordered as well.
		{codeOf(t, "mov r2 r0", "set r0 1"), []int{1, 0}, []int{1, 0}}, {counting(20), reversed(upTo(20, 5)), reversed(upTo(20, 1))}, {counting(3), []int{7, 7, 6}, []int{2, 0, 1}},
	} {
		order, ok := impl.OrderOfSchedule(c.code, c.cycles)
		checkNumbers(t, order, ok, c.want, codeLines(c.code), c.cycles)
	}
}

// TestPromise9Schedules has cycles that are schedules, and such that one change has made of them.
func TestPromise9Schedules(t *testing.T) {
	d := dice(113)
	counts := map[bool]int{}
	for k := range 1500 {
		code, wide := d.linked(d.below(21), 2+k%5), 1+d.below(3)
		early, ok := impl.EarliestOf(code)
		checkNumbers(t, early, ok, earliestByHand(code), "early", codeLines(code))
		list, ok := impl.ListSchedule(code, wide)
		checkNumbers(t, list, ok, listByHand(code, wide), "list", codeLines(code), wide)
		length, ok := impl.LengthOf(code, list)
		checkNumber(t, length, ok, lengthByHand(code, list), codeLines(code), list)
		path, ok := impl.PathBound(code)
		checkNumber(t, path, ok, pathBoundByHand(code), "path", codeLines(code))
		bound, ok := impl.WideBound(code, wide)
		checkNumber(t, bound, ok, wideBoundByHand(code, wide), "wide", codeLines(code), wide)
		if length < max(path, bound) {
			t.Error("length", codeLines(code), wide, length, path, bound)
		}
		late, fine := latestByHand(code, length)
		latest, ok := impl.LatestOf(code, length)
		checkNumbers(t, latest, ok && fine, late, "late", codeLines(code), length)
		checkScheduled(t, code, wide, list, true, d.words())
		for _, cycles := range [][]int{early, latest, d.changed(list), d.changed(list)} {
			is := isScheduleByHand(code, wide, cycles)
			counts[is]++
			checkScheduled(t, code, wide, cycles, is, d.words())
		}
	}
	if counts[true] < 500 || counts[false] < 1500 {
		t.Error("counts", counts)
	}
}

// changed returns cycles one of which is others than it was, if there are any.
func (d *dice) changed(cycles []int) []int {
	other := slices.Clone(cycles)
	if len(other) > 0 {
		i := d.below(len(other))
		other[i] = min(max(0, other[i]+d.below(7)-3), 100)
	}
	return other
}

// checkScheduled wants cycles to be a schedule or not, and their order to be by cycles; that of a schedule does what the code does.
func checkScheduled(t *testing.T, code []instr, wide int, cycles []int, want bool, words []int) {
	t.Helper()
	is, ok := impl.IsSchedule(code, wide, cycles)
	checkBool(t, is, ok, want, codeLines(code), wide, cycles)
	order, ok := impl.OrderOfSchedule(code, cycles)
	sorted := upTo(len(code), 1)
	slices.SortFunc(sorted, func(i, j int) int { return cmp.Or(cmp.Compare(cycles[i], cycles[j]), cmp.Compare(i, j)) })
	checkNumbers(t, order, ok, sorted, codeLines(code), cycles)
	if want {
		checkDoesTheSame(t, code, order, words)
	}
}
