package tests

import (
	"slices"
	"testing"

	"loop.example/g01127/impl"
)

func TestPromise9ExampleDepends(t *testing.T) {
	code := codeOf(t, "mul r2 r0 r1", "addi r2 r2 1", "add r3 r0 r1")
	checkDepends(t, code, [][]int{{0, 1, 4}})
	n, ok := impl.CountOrders(code)
	checkNumber(t, n, ok, 3, "example")
	last, ok := impl.LastOrder(code)
	checkNumbers(t, last, ok, []int{2, 0, 1}, "example")
	first, ok := impl.FirstOrder(code)
	checkNumbers(t, first, ok, []int{0, 1, 2}, "example")
}

func TestPromise9DependsByOne(t *testing.T) {
	for _, c := range []struct {
		lines []string
		want  [][]int
	}{
		{nil, nil}, {[]string{"set r0 1"}, nil}, {[]string{"mul r2 r2 r2"}, nil},
		// What is written is read: the delay is the cost, 1, 2 or 4.
		{[]string{"set r2 1", "mov r3 r2"}, [][]int{{0, 1, 1}}},
		{[]string{"add r2 r0 r1", "not r3 r2"}, [][]int{{0, 1, 1}}},
		{[]string{"shl r2 r0 r1", "neg r3 r2"}, [][]int{{0, 1, 2}}},
		{[]string{"shr r2 r0 r1", "add r3 r0 r2"}, [][]int{{0, 1, 2}}},
		{[]string{"mul r2 r0 r1", "add r3 r2 r0"}, [][]int{{0, 1, 4}}},
		{[]string{"shli r2 r0 3", "lea r3 r0 r2 1"}, [][]int{{0, 1, 1}}},
		{[]string{"lea r2 r0 r1 3", "addi r3 r2 1"}, [][]int{{0, 1, 1}}},
		// The cost is that of the one that writes.
		{[]string{"set r2 1", "mul r3 r2 r0"}, [][]int{{0, 1, 1}}},
		// A register that is read twice is no second one.
		{[]string{"mul r2 r0 r1", "add r3 r2 r2"}, [][]int{{0, 1, 4}}},
		// Both write the same register: the delay is 1, whatever they cost.
		{[]string{"set r2 1", "set r2 2"}, [][]int{{0, 1, 1}}},
		{[]string{"mul r2 r0 r1", "set r2 2"}, [][]int{{0, 1, 1}}},
		{[]string{"mul r2 r0 r1", "mul r2 r0 r1"}, [][]int{{0, 1, 1}}},
		// What is read is written: the delay is 0.
		{[]string{"mov r2 r0", "set r0 1"}, [][]int{{0, 1, 0}}},
		{[]string{"mul r2 r0 r1", "set r1 1"}, [][]int{{0, 1, 0}}},
		{[]string{"mul r2 r0 r0", "mul r0 r1 r1"}, [][]int{{0, 1, 0}}},
		// Two or three of them at once: the greatest counts.
		{[]string{"mul r2 r0 r1", "addi r2 r2 1"}, [][]int{{0, 1, 4}}},
		{[]string{"set r2 1", "addi r2 r2 1"}, [][]int{{0, 1, 1}}},
		{[]string{"shl r2 r0 r1", "not r0 r2"}, [][]int{{0, 1, 2}}},
		{[]string{"mul r2 r2 r1", "set r2 1"}, [][]int{{0, 1, 1}}},
		{[]string{"mul r2 r2 r1", "mul r2 r2 r1"}, [][]int{{0, 1, 4}}},
		{[]string{"addi r2 r2 1", "addi r2 r2 1"}, [][]int{{0, 1, 1}}},
		// A register that is written twice, with a reader between and without.
		{[]string{"mul r2 r0 r1", "mov r3 r2", "set r2 1"}, [][]int{{0, 1, 4}, {0, 2, 1}, {1, 2, 0}}},
		{[]string{"mul r2 r0 r1", "set r2 1", "mov r3 r2"}, [][]int{{0, 1, 1}, {1, 2, 1}}},
		// A write between the write and the read: what is read was written there.
		{[]string{"mul r2 r0 r1", "shl r2 r0 r1", "mov r3 r2"}, [][]int{{0, 1, 1}, {1, 2, 2}}},
		{[]string{"mul r2 r0 r1", "set r2 1", "add r0 r2 r2"}, [][]int{{0, 1, 1}, {0, 2, 0}, {1, 2, 1}}},
		{[]string{"mul r2 r0 r1", "set r2 1", "addi r2 r2 1"}, [][]int{{0, 1, 1}, {0, 2, 1}, {1, 2, 1}}},
		// Something else between makes no difference, nor does what reads or writes itself.
		{[]string{"mul r2 r0 r1", "set r4 1", "mov r3 r2"}, [][]int{{0, 2, 4}}},
		{[]string{"mul r2 r0 r1", "mov r4 r2", "mov r3 r2"}, [][]int{{0, 1, 4}, {0, 2, 4}}},
		{[]string{"mul r2 r0 r1", "not r2 r2", "mov r3 r2"}, [][]int{{0, 1, 4}, {1, 2, 1}}},
		// All writers depend, also when there are others between; all readers before are waited for.
		{[]string{"set r2 1", "set r2 2", "set r2 3"}, [][]int{{0, 1, 1}, {0, 2, 1}, {1, 2, 1}}},
		{[]string{"mov r2 r0", "mov r3 r0", "set r0 1", "set r0 2"}, [][]int{{0, 2, 0}, {0, 3, 0}, {1, 2, 0}, {1, 3, 0}, {2, 3, 1}}},
		// The first reads nothing that is written, or the fields that it has are no registers.
		{[]string{"set r2 5", "set r0 1"}, nil}, {[]string{"mov r2 r3", "set r0 1"}, nil}, {[]string{"set r0 1", "set r3 0"}, nil},
		{[]string{"set r0 1", "mov r2 r1"}, nil}, {[]string{"set r0 1", "addi r2 r1 0"}, nil}, {[]string{"mov r3 r2", "mov r4 r2"}, nil},
	} {
		checkDepends(t, codeOf(t, c.lines...), c.want)
	}
}

// TestPromise9DependsInOrder has all pairs of instructions, ordered by the first one and then by the second one.
func TestPromise9DependsInOrder(t *testing.T) {
	for _, n := range []int{0, 1, 2, 19, 20} {
		var want [][]int
		for i := range n {
			for j := i + 1; j < n; j++ {
				want = append(want, []int{i, j, 1})
			}
		}
		checkDepends(t, counting(n), want)
		checkDepends(t, setting(4, n), want)
	}
	checkDepends(t, spread(6), nil)
	checkDepends(t, chainOf("mul", 3), [][]int{{0, 1, 4}, {0, 2, 1}, {1, 2, 4}})
}

func TestPromise9Depends(t *testing.T) {
	d := dice(110)
	delays := map[int]int{}
	for k := range 1500 {
		code := d.linked(d.below(21), 1+k%6)
		want := dependsByHand(code)
		for _, link := range want {
			delays[link[2]]++
		}
		checkDepends(t, code, want)
	}
	for _, delay := range []int{0, 1, 2, 4} {
		if delays[delay] < 500 {
			t.Error("delays", delays)
		}
	}
}

func TestPromise9OrdersByOne(t *testing.T) {
	example := codeOf(t, "mul r2 r0 r1", "addi r2 r2 1", "add r3 r0 r1")
	delayed := codeOf(t, "mov r2 r0", "set r0 1")
	for _, c := range []struct {
		code  []instr
		order []int
		want  bool
	}{
		{nil, nil, true}, {nil, []int{}, true}, {nil, []int{0}, false}, {nil, []int{-1}, false},
		{spread(1), []int{0}, true}, {spread(1), nil, false}, {spread(1), []int{1}, false}, {spread(1), []int{-1}, false}, {spread(1), []int{0, 0}, false}, {spread(1), []int{0, 1}, false},
		{example, []int{0, 1, 2}, true}, {example, []int{0, 2, 1}, true}, {example, []int{2, 0, 1}, true},
		{example, []int{2, 1, 0}, false}, {example, []int{1, 0, 2}, false}, {example, []int{1, 2, 0}, false},
		// An index is missing, is there twice, or is that of no instruction.
		{example, nil, false}, {example, []int{0, 1}, false}, {example, []int{0, 2}, false}, {example, []int{2}, false}, {example, []int{1, 2}, false},
		{example, []int{0, 1, 1}, false}, {example, []int{0, 0, 1}, false}, {example, []int{0, 1, 2, 2}, false}, {example, []int{0, 0, 1, 2}, false}, {example, []int{2, 0, 2}, false},
		{example, []int{0, 1, 3}, false}, {example, []int{0, 1, -1}, false}, {example, []int{0, 1, 2, 3}, false}, {example, []int{-1, 0, 1, 2}, false}, {example, []int{1, 2, 3}, false},
		// A delay of 0 is kept, too.
		{delayed, []int{0, 1}, true}, {delayed, []int{1, 0}, false},
		// All of the instructions depend on each other, or none of them.
		{counting(20), upTo(20, 1), true}, {counting(20), reversed(upTo(20, 1)), false}, {counting(2), []int{1, 0}, false},
		{spread(6), upTo(6, 1), true}, {spread(6), reversed(upTo(6, 1)), true}, {spread(6), []int{3, 0, 5, 1, 4, 2}, true}, {spread(6), []int{3, 0, 5, 1, 4, 4}, false},
		{spread(20), upTo(20, 1), true}, {spread(20), upTo(19, 1), false}, {spread(20), upTo(21, 1), false}, {spread(20), reversed(upTo(20, 1)), false},
	} {
		is, ok := impl.IsOrder(c.code, c.order)
		checkBool(t, is, ok, c.want, codeLines(c.code), c.order)
		checkApplied(t, c.code, c.order, c.want)
	}
	for _, bad := range extremes {
		if bad < 0 || bad > 2 {
			for _, order := range [][]int{{bad, 1, 2}, {0, bad, 2}, {0, 1, bad}, {0, 1, 2, bad}, {bad}} {
				is, ok := impl.IsOrder(example, order)
				checkBool(t, is, ok, false, order)
				checkApplied(t, example, order, false)
			}
		}
	}
}

// checkApplied wants the instructions in an order, or nothing if it is none.
func checkApplied(t *testing.T, code []instr, order []int, is bool) {
	t.Helper()
	var want []instr
	for _, i := range order {
		if is {
			want = append(want, code[i])
		}
	}
	if ordered, ok := impl.ApplyOrder(code, order); ok != is || !sameCode(ordered, want) {
		t.Error("applied", codeLines(code), order, codeLines(ordered), ok, codeLines(want))
	}
}

func TestPromise9CountsByOne(t *testing.T) {
	pairs := append(spread(6), spread(6)...)
	for _, c := range []struct {
		code  []instr
		count int
	}{
		{nil, 1}, {spread(1), 1}, {spread(2), 2}, {spread(3), 6}, {spread(4), 24}, {spread(5), 120}, {spread(6), 720}, {counting(2), 1}, {counting(11), 1}, {counting(12), 1},
		// Six chains of one or two instructions each.
		{spread(7), 5040 / 2}, {spread(11), 39916800 / 32}, {spread(12), 479001600 / 64}, {pairs, 479001600 / 64},
		// The first or the last one of all has its place.
		{codeOf(t, "set r0 1", "mov r1 r0", "mov r2 r0", "mov r3 r0"), 6},
		{codeOf(t, "mov r1 r0", "mov r2 r0", "mov r3 r0", "set r0 1"), 6},
		{codeOf(t, "set r0 1", "mov r1 r0", "mov r2 r0", "set r0 2"), 2},
	} {
		n, ok := impl.CountOrders(c.code)
		checkNumber(t, n, ok, c.count, codeLines(c.code))
	}
	for n := range 42 {
		for _, code := range [][]instr{counting(n), spread(n)} {
			if count, ok := impl.CountOrders(code); ok != (n <= 12) || (count > 0) != ok {
				t.Error("count", n, count, ok)
			}
		}
	}
}

func TestPromise9EndsByOne(t *testing.T) {
	for _, c := range []struct {
		code []instr
		last []int
	}{
		{nil, nil}, {spread(1), []int{0}}, {spread(6), reversed(upTo(6, 1))}, {counting(20), upTo(20, 1)},
		{spread(7), []int{5, 4, 3, 2, 1, 0, 6}}, {spread(8), []int{5, 4, 3, 2, 1, 7, 0, 6}},
		{spread(20), []int{5, 11, 17, 4, 10, 16, 3, 9, 15, 2, 8, 14, 1, 7, 13, 19, 0, 6, 12, 18}},
		// The greatest one at each place, not the least one at the end: 1 comes before 0, though 3 has to wait for it.
		{codeOf(t, "set r0 1", "set r1 2", "set r2 3", "mov r3 r0"), []int{2, 1, 0, 3}},
		{codeOf(t, "set r0 1", "set r1 2", "mov r3 r0", "mov r4 r1"), []int{1, 3, 0, 2}},
		{codeOf(t, "mov r2 r0", "set r0 1", "set r1 1"), []int{2, 0, 1}},
	} {
		last, ok := impl.LastOrder(c.code)
		checkNumbers(t, last, ok, c.last, "last", codeLines(c.code))
		first, ok := impl.FirstOrder(c.code)
		checkNumbers(t, first, ok, upTo(len(c.code), 1), "first", codeLines(c.code))
	}
}

// TestPromise9Orders has all lists of all indices for code: those that are orders do what the code does.
func TestPromise9Orders(t *testing.T) {
	d := dice(111)
	several := 0
	for k := range 250 {
		code := d.linked(d.below(7), 3+k%4)
		orders := ordersByHand(code)
		if len(orders) > 1 {
			several++
		}
		n, ok := impl.CountOrders(code)
		checkNumber(t, n, ok, len(orders), codeLines(code))
		first, ok := impl.FirstOrder(code)
		checkNumbers(t, first, ok, orders[0], "first", codeLines(code))
		last, ok := impl.LastOrder(code)
		checkNumbers(t, last, ok, orders[len(orders)-1], "last", codeLines(code))
		for _, list := range arrangements(len(code)) {
			want := slices.ContainsFunc(orders, func(order []int) bool { return sameNumbers(order, list) })
			is, ok := impl.IsOrder(code, list)
			checkBool(t, is, ok, want, codeLines(code), list)
		}
		for _, order := range orders {
			checkDoesTheSame(t, code, order, d.words())
		}
	}
	if several < 110 {
		t.Error("several", several)
	}
}

// checkDoesTheSame wants the code in an order to leave the words that the code leaves.
func checkDoesTheSame(t *testing.T, code []instr, order []int, words []int) {
	t.Helper()
	ordered, ok := impl.ApplyOrder(code, order)
	if !ok || !sameNumbers(runByHand(ordered, words), runByHand(code, words)) {
		t.Error("does", codeLines(code), order, codeLines(ordered), ok)
	}
	checkApplied(t, code, order, true)
}

// TestPromise9LongOrders has code of up to 20 instructions, and an order that is made by chance.
func TestPromise9LongOrders(t *testing.T) {
	d := dice(112)
	for k := range 400 {
		code := d.linked(7+d.below(14), 3+k%4)
		order := d.order(code)
		is, ok := impl.IsOrder(code, order)
		checkBool(t, is, ok, true, codeLines(code), order)
		checkDoesTheSame(t, code, order, d.words())
		last, ok := impl.LastOrder(code)
		if !ok || !isOrderByHand(code, last) || slices.Compare(last, order) < 0 {
			t.Error("last", codeLines(code), last, ok, order)
		}
		checkDoesTheSame(t, code, last, d.words())
		i, j := d.below(len(code)), d.below(len(code))
		order[i], order[j] = order[j], order[i]
		is, ok = impl.IsOrder(code, order)
		checkBool(t, is, ok, isOrderByHand(code, order), codeLines(code), order)
	}
}

// order returns any order of code.
func (d *dice) order(code []instr) []int {
	depends := dependsByHand(code)
	var order []int
	for len(order) < len(code) {
		i := d.below(len(code))
		waits := slices.ContainsFunc(depends, func(link []int) bool { return link[1] == i && !slices.Contains(order, link[0]) })
		if !waits && !slices.Contains(order, i) {
			order = append(order, i)
		}
	}
	return order
}
