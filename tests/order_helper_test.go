package tests

import (
	"cmp"
	"slices"
	"testing"

	"loop.example/g01127/impl"
)

// dependsByHand tells by the document's own words what depends on what.
func dependsByHand(code []instr) [][]int {
	var depends [][]int
	for i := range code {
		for j := i + 1; j < len(code); j++ {
			if delay := delayByHand(code, i, j); delay >= 0 {
				depends = append(depends, []int{i, j, delay})
			}
		}
	}
	return depends
}

// delayByHand tells the greatest delay with which j depends on i, -1 if it does not.
func delayByHand(code []instr, i int, j int) int {
	delay := -1
	if isReading(code[i], code[j].Dst) {
		delay = 0
	}
	if code[i].Dst == code[j].Dst {
		delay = max(delay, 1)
	}
	writers := 0
	for k := i + 1; k < j; k++ {
		if code[k].Dst == code[i].Dst {
			writers++
		}
	}
	if isReading(code[j], code[i].Dst) && writers == 0 {
		delay = max(delay, rowOf(code[i].Op).cost)
	}
	return delay
}

// isOrderByHand tells it of any list.
func isOrderByHand(code []instr, order []int) bool {
	for i := range code {
		if !slices.Contains(order, i) {
			return false
		}
	}
	for _, d := range dependsByHand(code) {
		if slices.Index(order, d[0]) > slices.Index(order, d[1]) {
			return false
		}
	}
	return len(order) == len(code)
}

// arrangements returns all lists of 0..n-1, each once, in lexicographic order.
func arrangements(n int) [][]int {
	lists := [][]int{nil}
	for range n {
		var longer [][]int
		for _, list := range lists {
			for i := range n {
				if !slices.Contains(list, i) {
					longer = append(longer, append(slices.Clone(list), i))
				}
			}
		}
		lists = longer
	}
	return lists
}

func ordersByHand(code []instr) [][]int {
	var orders [][]int
	for _, list := range arrangements(len(code)) {
		if isOrderByHand(code, list) {
			orders = append(orders, list)
		}
	}
	return orders
}

// isScheduleByHand tells it of as many cycles as there are instructions.
func isScheduleByHand(code []instr, wide int, cycles []int) bool {
	return isKeeping(dependsByHand(code), wide, cycles)
}

// isKeeping tells whether the cycles of the first instructions are a schedule of these.
func isKeeping(depends [][]int, wide int, cycles []int) bool {
	begun := map[int]int{}
	for _, c := range cycles {
		begun[c]++
		if c < 0 || c > 100 || begun[c] > wide {
			return false
		}
	}
	for _, d := range depends {
		if d[1] < len(cycles) && cycles[d[1]]-cycles[d[0]] < d[2] {
			return false
		}
	}
	return true
}

func lengthByHand(code []instr, cycles []int) int {
	length := 0
	for i, x := range code {
		length = max(length, cycles[i]+rowOf(x.Op).cost)
	}
	return length
}

// heightsByHand raises heights until each one is that of the document.
func heightsByHand(code []instr) []int {
	var heights []int
	for _, x := range code {
		heights = append(heights, rowOf(x.Op).cost)
	}
	depends := dependsByHand(code)
	for range code {
		for _, d := range depends {
			heights[d[0]] = max(heights[d[0]], d[2]+heights[d[1]])
		}
	}
	return heights
}

// earliestByHand raises cycles until all delays are kept.
func earliestByHand(code []instr) []int {
	cycles := make([]int, len(code))
	depends := dependsByHand(code)
	for range code {
		for _, d := range depends {
			cycles[d[1]] = max(cycles[d[1]], cycles[d[0]]+d[2])
		}
	}
	return cycles
}

// latestByHand lowers cycles until all delays are kept, and fails if one becomes negative.
func latestByHand(code []instr, length int) ([]int, bool) {
	var cycles []int
	for _, x := range code {
		cycles = append(cycles, length-rowOf(x.Op).cost)
	}
	depends := dependsByHand(code)
	for range code {
		for _, d := range depends {
			cycles[d[0]] = min(cycles[d[0]], cycles[d[1]]-d[2])
		}
	}
	if len(cycles) > 0 && slices.Min(cycles) < 0 {
		return nil, false
	}
	return cycles, true
}

func pathBoundByHand(code []instr) int { return slices.Max(append(heightsByHand(code), 0)) }

// wideBoundByHand tries all cycles.
func wideBoundByHand(code []instr, wide int) int {
	bound := 0
	earliest := earliestByHand(code)
	for c := range 101 {
		if !slices.Contains(earliest, c) {
			continue
		}
		var costs []int
		for i, x := range code {
			if earliest[i] >= c {
				costs = append(costs, rowOf(x.Op).cost)
			}
		}
		rounds := len(costs) / wide
		if rounds*wide < len(costs) {
			rounds++
		}
		bound = max(bound, c+rounds+slices.Min(costs)-1)
	}
	return bound
}

// listByHand lets the instructions begin in turn, sorted by their heights.
func listByHand(code []instr, wide int) []int {
	cycles := slices.Repeat([]int{-1}, len(code))
	turn := upTo(len(code), 1)
	heights := heightsByHand(code)
	slices.SortFunc(turn, func(i, j int) int { return cmp.Or(cmp.Compare(heights[j], heights[i]), cmp.Compare(i, j)) })
	depends := dependsByHand(code)
	isReady := func(i int, now int) bool {
		return !slices.ContainsFunc(depends, func(d []int) bool { return d[1] == i && (cycles[d[0]] < 0 || cycles[d[0]]+d[2] > now) })
	}
	for now := 0; slices.Contains(cycles, -1); now++ {
		for range wide {
			for _, i := range turn {
				if cycles[i] < 0 && isReady(i, now) {
					cycles[i] = now
					break
				}
			}
		}
	}
	return cycles
}

// bestByHand tells the first schedule with the least length, by trying all lengths from 0 on.
func bestByHand(code []instr, wide int) []int {
	for length := 0; ; length++ {
		if all := allWithin(code, wide, length, 1); len(all) > 0 {
			return all[0]
		}
	}
}

// allWithin tells all schedules with at most this length, in order, up to so many of them.
func allWithin(code []instr, wide int, length int, most int) [][]int {
	var all [][]int
	depends := dependsByHand(code)
	var extend func(cycles []int)
	extend = func(cycles []int) {
		n := len(cycles)
		if len(all) == most || !isKeeping(depends, wide, cycles) {
			return
		}
		if n == len(code) {
			all = append(all, cycles)
			return
		}
		for c := 0; c+rowOf(code[n].Op).cost <= length; c++ {
			extend(append(slices.Clone(cycles), c))
		}
	}
	extend(nil)
	return all
}

// linked returns code with costs of all sorts that reads and writes only some registers, so that much of it depends.
func (d *dice) linked(n int, registers int) []instr {
	code := d.code(n)
	for i, x := range code {
		row := rowOf([]string{x.Op, x.Op, "mul", "shl", "set", "mov"}[d.below(6)])
		code[i] = row.with(d.below(registers), d.below(registers), d.below(registers), max(row.least, 1))
	}
	return code
}

// spread returns n instructions each of which sets another one of six registers than those next to it.
func spread(n int) []instr {
	var code []instr
	for i := range n {
		code = append(code, instr{Op: "set", Dst: i % 6, Imm: i})
	}
	return code
}

// chainOf returns n instructions with a cost each of which needs the one before it.
func chainOf(op string, n int) []instr {
	var code []instr
	for range n {
		code = append(code, rowOf(op).with(2, 2, 2, 1))
	}
	return code
}

// upTo returns 0, step, 2 step .., n numbers.
func upTo(n int, step int) []int {
	var list []int
	for i := range n {
		list = append(list, i*step)
	}
	return list
}

func reversed(list []int) []int {
	back := slices.Clone(list)
	slices.Reverse(back)
	return back
}

// noOrderables returns lists of instructions that cannot be ordered: those that are no code, and code that is too long.
func noOrderables() [][]instr {
	return append(invalidCodes(), counting(21), spread(21), spread(40), append(spread(20), instr{}))
}

// checkBool wants a call to succeed with this result.
func checkBool(t *testing.T, is bool, ok bool, want bool, about ...any) {
	t.Helper()
	if !ok || is != want {
		t.Error("is", about, is, ok, want)
	}
}

// checkNumber wants a call to succeed with this number.
func checkNumber(t *testing.T, n int, ok bool, want int, about ...any) {
	t.Helper()
	if !ok || n != want {
		t.Error("number", about, n, ok, want)
	}
}

// checkNumbers wants a call to succeed with these numbers.
func checkNumbers(t *testing.T, list []int, ok bool, want []int, about ...any) {
	t.Helper()
	if !ok || !sameNumbers(list, want) {
		t.Error("numbers", about, list, ok, want)
	}
}

func checkDepends(t *testing.T, code []instr, want [][]int) {
	t.Helper()
	if lists, ok := impl.DependsOf(code); !ok || !sameLists(lists, want) {
		t.Error("depends", codeLines(code), lists, ok, want)
	}
}

// checkBestSchedule wants a first best schedule, and a least length that no bound exceeds and no other schedule goes below.
func checkBestSchedule(t *testing.T, code []instr, wide int, want []int) {
	t.Helper()
	length := lengthByHand(code, want)
	cycles, ok := impl.BestSchedule(code, wide)
	checkNumbers(t, cycles, ok, want, "best", codeLines(code), wide)
	least, ok := impl.LeastLength(code, wide)
	checkNumber(t, least, ok, length, "least", codeLines(code), wide)
	is, ok := impl.IsSchedule(code, wide, cycles)
	checkBool(t, is, ok, true, "best", codeLines(code), wide, cycles)
	path, ok := impl.PathBound(code)
	bound, fine := impl.WideBound(code, wide)
	if !ok || !fine || path > length || bound > length {
		t.Error("bounds", codeLines(code), wide, path, bound, length)
	}
	list, ok := impl.ListSchedule(code, wide)
	if n, fine := impl.LengthOf(code, list); !ok || !fine || n < length {
		t.Error("list", codeLines(code), wide, list, n, length)
	}
}
