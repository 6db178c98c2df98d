package tests

import (
	"fmt"
	"slices"
	"testing"

	"loop.example/g01127/impl"
)

// planCalls has a call of each function of chapter 9 that takes code alone; its results are what it returns.
func planCalls(code []instr) map[string][]any {
	calls := map[string][]any{}
	keep := func(name string, results ...any) { calls[name] = results }
	lists, ok := impl.DependsOf(code)
	keep("DependsOf", lists, ok)
	n, ok := impl.CountOrders(code)
	keep("CountOrders", n, ok)
	list, ok := impl.FirstOrder(code)
	keep("FirstOrder", list, ok)
	list, ok = impl.LastOrder(code)
	keep("LastOrder", list, ok)
	list, ok = impl.EarliestOf(code)
	keep("EarliestOf", list, ok)
	n, ok = impl.PathBound(code)
	keep("PathBound", n, ok)
	return calls
}

// wideCalls has those that take a width, too.
func wideCalls(code []instr, wide int) map[string][]any {
	calls := map[string][]any{}
	keep := func(name string, results ...any) { calls[name] = results }
	n, ok := impl.WideBound(code, wide)
	keep("WideBound", n, ok)
	list, ok := impl.ListSchedule(code, wide)
	keep("ListSchedule", list, ok)
	list, ok = impl.BestSchedule(code, wide)
	keep("BestSchedule", list, ok)
	n, ok = impl.LeastLength(code, wide)
	keep("LeastLength", n, ok)
	return calls
}

// cycleCalls has those that take a list of cycles.
func cycleCalls(code []instr, cycles []int) map[string][]any {
	n, ok := impl.LengthOf(code, cycles)
	list, fine := impl.OrderOfSchedule(code, cycles)
	return map[string][]any{"LengthOf": {n, ok}, "OrderOfSchedule": {list, fine}}
}

func scheduleCall(code []instr, wide int, cycles []int) map[string][]any {
	is, ok := impl.IsSchedule(code, wide, cycles)
	return map[string][]any{"IsSchedule": {is, ok}}
}

func isOrderCall(code []instr, order []int) map[string][]any {
	is, ok := impl.IsOrder(code, order)
	return map[string][]any{"IsOrder": {is, ok}}
}

func applyCall(code []instr, order []int) map[string][]any {
	ordered, ok := impl.ApplyOrder(code, order)
	return map[string][]any{"ApplyOrder": {ordered, ok}}
}

func latestCall(code []instr, length int) map[string][]any {
	list, ok := impl.LatestOf(code, length)
	return map[string][]any{"LatestOf": {list, ok}}
}

func TestPromise11NoOrderables(t *testing.T) {
	for _, code := range noOrderables() {
		before := copyOfCode(code)
		checkSuccess(t, planCalls(code), false, code)
		for _, wide := range []int{0, 1, 2, 3, 4} {
			checkSuccess(t, wideCalls(code, wide), false, code)
		}
		for _, length := range []int{-1, 0, 100, 101} {
			checkSuccess(t, latestCall(code, length), false, code)
		}
		for _, list := range [][]int{nil, {0}, upTo(len(code), 1), make([]int, len(code)), {-1}} {
			checkSuccess(t, cycleCalls(code, list), false, code)
			checkSuccess(t, scheduleCall(code, 3, list), false, code)
			checkSuccess(t, isOrderCall(code, list), false, code)
			checkSuccess(t, applyCall(code, list), false, code)
		}
		if !sameCode(code, before) {
			t.Error("changed", before, code)
		}
	}
}

// TestPromise11OrdersMeetTheLimits has code of all lengths, those that are too long for some functions or for all of them included.
func TestPromise11OrdersMeetTheLimits(t *testing.T) {
	for n := range 45 {
		for _, code := range [][]instr{counting(n), spread(n), setting(3, n)} {
			valid := n <= 20
			calls := planCalls(code)
			checkSuccess(t, map[string][]any{"CountOrders": calls["CountOrders"]}, n <= 12, n)
			delete(calls, "CountOrders")
			checkSuccess(t, calls, valid, n)
			for wide := 1; wide <= 3; wide++ {
				calls := wideCalls(code, wide)
				for _, name := range []string{"BestSchedule", "LeastLength"} {
					checkSuccess(t, map[string][]any{name: calls[name]}, n <= 7, n)
					delete(calls, name)
				}
				checkSuccess(t, calls, valid, n)
				checkSuccess(t, scheduleCall(code, wide, upTo(n, 1)), valid, n)
			}
			checkSuccess(t, cycleCalls(code, upTo(n, 1)), valid, n)
			checkSuccess(t, isOrderCall(code, upTo(n, 1)), valid, n)
			checkSuccess(t, applyCall(code, upTo(n, 1)), valid, n)
			checkSuccess(t, latestCall(code, 100), valid, n)
		}
	}
}

// TestPromise11WidthsOfAllSizes has widths and lengths that are too small and too great.
func TestPromise11WidthsOfAllSizes(t *testing.T) {
	for _, code := range [][]instr{nil, {}, spread(1), counting(3), spread(7)} {
		for _, n := range append([]int{3, 4, 5, 99, 100, 101}, extremes...) {
			isWide := n >= 1 && n <= 3
			checkSuccess(t, wideCalls(code, n), isWide, n)
			checkSuccess(t, scheduleCall(code, n, upTo(len(code), 1)), isWide, n)
			checkSuccess(t, scheduleCall(code, n, make([]int, len(code))), isWide, n)
			suffices := n >= 0 && n <= 100 && n >= pathBoundByHand(code)
			checkSuccess(t, latestCall(code, n), suffices, n)
		}
	}
}

// TestPromise11ListsOfAllSorts has lists of other lengths and with numbers of all sizes.
func TestPromise11ListsOfAllSorts(t *testing.T) {
	for _, code := range [][]instr{nil, {}, spread(1), counting(3), spread(6), spread(20)} {
		n := len(code)
		for length := range 24 {
			for _, list := range [][]int{make([]int, length), upTo(length, 1), slices.Repeat([]int{100}, length), slices.Repeat([]int{-1}, length)} {
				isFull := length == n
				areCycles := isFull && !slices.Contains(list, -1)
				checkSuccess(t, cycleCalls(code, list), areCycles, list)
				checkSuccess(t, scheduleCall(code, 2, list), isFull, list)
				checkSuccess(t, isOrderCall(code, list), true, list)
				checkSuccess(t, applyCall(code, list), isFull && sameNumbers(list, upTo(n, 1)), list)
			}
		}
		for _, bad := range append([]int{99, 100, 101}, extremes...) {
			for i := range n {
				list := upTo(n, 1)
				list[i] = bad
				before := slices.Clone(list)
				checkSuccess(t, cycleCalls(code, list), bad >= 0 && bad <= 100, list)
				checkSuccess(t, scheduleCall(code, 1, list), true, list)
				checkSuccess(t, isOrderCall(code, list), true, list)
				checkSuccess(t, applyCall(code, list), isOrderByHand(code, list), list)
				if !sameNumbers(list, before) {
					t.Error("changed", before, list)
				}
			}
		}
	}
	for _, cycles := range [][]int{nil, {}} {
		checkSuccess(t, cycleCalls(spread(1), cycles), false, cycles)
		checkSuccess(t, scheduleCall(spread(1), 1, cycles), false, cycles)
		checkSuccess(t, applyCall(spread(1), cycles), false, cycles)
	}
}

// TestPromise11RandomOrders has code, widths and lists of all sorts, many of them invalid.
func TestPromise11RandomOrders(t *testing.T) {
	d := dice(116)
	counts := map[bool]int{}
	number := func() int {
		if d.below(6) == 0 {
			return extremes[d.below(len(extremes))]
		}
		return d.below(5)
	}
	for range 3000 {
		code := d.linked(d.below(10), 3)
		if d.below(4) == 0 {
			code = d.code(18 + d.below(5))
		}
		if len(code) > 0 && d.below(4) == 0 {
			code[d.below(len(code))] = instr{Op: "add", Dst: number(), A: number(), B: number(), Imm: number()}
		}
		wide, list := number(), make([]int, max(0, len(code)+d.below(5)/4-d.below(5)/4))
		for i := range list {
			list[i] = number()
		}
		before := fmt.Sprint(code, wide, list)
		valid := impl.IsCode(code) && len(code) <= 20
		isWide := wide >= 1 && wide <= 3
		areCycles := len(list) == len(code) && (len(list) == 0 || slices.Min(list) >= 0 && slices.Max(list) <= 100)
		counts[valid && isWide && areCycles]++
		checkSomeSuccess(t, planCalls(code), valid, "CountOrders", code)
		checkSomeSuccess(t, wideCalls(code, wide), valid && isWide, "BestSchedule LeastLength", code)
		checkSuccess(t, cycleCalls(code, list), valid && areCycles, code)
		checkSuccess(t, scheduleCall(code, wide, list), valid && isWide && len(list) == len(code), code)
		checkSuccess(t, isOrderCall(code, list), valid, code)
		checkSuccess(t, applyCall(code, list), valid && isOrderByHand(code, list), code)
		checkFailed(t, latestCall(code, wide), valid, code)
		if after := fmt.Sprint(code, wide, list); after != before {
			t.Error("changed", before, after)
		}
	}
	if counts[true] < 300 || counts[false] < 1000 {
		t.Error("counts", counts)
	}
}

// TestPromise11OrdersStay has room behind all arguments, and overwrites and grows every result.
func TestPromise11OrdersStay(t *testing.T) {
	behind := []instr{{Op: "behind", A: 7}, {Op: "behind", B: 8}}
	for _, c := range [][]instr{nil, spread(1), counting(4), spread(7), codeOf(t, "mul r2 r0 r1", "addi r2 r2 1", "add r3 r0 r1")} {
		n := len(c)
		code := append(copyOfCode(c), behind...)
		order, cycles := append(upTo(n, 1), 77, 88), append(upTo(n, 5), 77, 88)
		before := fmt.Sprint(code, order, cycles)
		call := func() []map[string][]any {
			return []map[string][]any{
				planCalls(code[:n]), wideCalls(code[:n], 1), wideCalls(code[:n], 3), cycleCalls(code[:n], cycles[:n]), scheduleCall(code[:n], 2, cycles[:n]),
				isOrderCall(code[:n], order[:n]), applyCall(code[:n], order[:n]), latestCall(code[:n], 50),
			}
		}
		first := fmt.Sprint(call())
		for _, calls := range call() {
			for name, results := range calls {
				if results[len(results)-1] != true {
					t.Error(name, "fails", codeLines(c))
				}
				checkApart(t, name, results)
				overwrite(results)
				if after := fmt.Sprint(code, order, cycles); after != before {
					t.Fatal("changed by", name, before, after)
				}
			}
		}
		if again := fmt.Sprint(call()); again != first {
			t.Error("other results", first, again)
		}
	}
}
