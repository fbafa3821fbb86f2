package cheney_test

import (
	"cmp"
	"fmt"
	"math"
	"slices"
	"testing"

	"larderwick/api"
	"larderwick/cheney"
	"larderwick/graph"
	"larderwick/plain"
	"larderwick/sweep"
)

// to gives the pointers of a node.
func to(nodes ...int) []int { return nodes }

// upTo gives the numbers below a bound, rising.
func upTo(bound int) []int {
	list := make([]int, bound)
	for i := range list {
		list[i] = i
	}
	return list
}

// falling gives the numbers below a bound, from the last one on.
func falling(bound int) []int {
	list := upTo(bound)
	slices.Reverse(list)
	return list
}

// bare gives so many nodes that point to nothing.
func bare(many int) [][]int { return make([][]int, many) }

// same gives so many nodes, each with the same pointers.
func same(many int, outs ...int) [][]int { return slices.Repeat([][]int{outs}, many) }

// row gives so many nodes, each of which points to the one behind it.
func row(many int) [][]int {
	outs := bare(many)
	for i := range many - 1 {
		outs[i] = to(i + 1)
	}
	return outs
}

// turned gives so many nodes, each of which points to the one ahead of it.
func turned(many int) [][]int {
	outs := bare(many)
	for i := 1; i < many; i++ {
		outs[i] = to(i - 1)
	}
	return outs
}

// ring gives a row whose last node points to the first.
func ring(many int) [][]int {
	return with(row(many), many-1, 0)
}

// with gives a copy of the pointers of nodes in which one node has others.
func with(outs [][]int, node int, others ...int) [][]int {
	changed := slices.Clone(outs)
	changed[node] = others
	return changed
}

// answer is what is told of a heap.
type answer struct {
	order []int
	heap  api.Heap
	fault api.Errno
}

// told gives what is told of a heap.
func told(h api.Heap) answer {
	order, heap, err := cheney.Copy(h)
	return answer{order, heap, plain.Told(err)}
}

// answered gives what is to be told of a heap without faults.
func answered(order []int, outs [][]int, roots []int) answer {
	return answer{order: order, heap: api.Heap{Outs: outs, Roots: roots}}
}

// refused gives what is to be told of a heap that has a fault.
func refused(fault api.Errno) answer { return answer{fault: fault} }

// sameRows tells whether two lists of lists hold the same.
func sameRows(a, b [][]int) bool { return slices.EqualFunc(a, b, slices.Equal[[]int]) }

// sameHeaps tells whether two heaps are the same, number by number.
func sameHeaps(a, b api.Heap) bool {
	return sameRows(a.Outs, b.Outs) && slices.Equal(a.Roots, b.Roots)
}

// is tells whether two answers are the same; an empty list and nil are.
func (a answer) is(b answer) bool {
	return a.fault == b.fault && slices.Equal(a.order, b.order) && sameHeaps(a.heap, b.heap)
}

func TestCopy(t *testing.T) {
	all := upTo(api.MaxNodes)
	zeros := make([]int, api.MaxNodes)
	cases := []struct {
		name        string
		outs        [][]int
		roots       []int
		order       []int
		copied      [][]int
		copiedRoots []int
	}{
		{"nil, no node", nil, nil, nil, nil, nil},
		{"empty, no node", [][]int{}, []int{}, nil, nil, nil},
		{"one node, no root", bare(1), nil, nil, nil, nil},
		{"one node, and a root", bare(1), to(0), to(0), bare(1), to(0)},
		{"pointers that are nil, or empty", [][]int{nil, {}}, to(1, 0), to(1, 0), bare(2), to(0, 1)},
		{"one node, that points to itself", same(1, 0), to(0), to(0), same(1, 0), to(0)},
		{"one node, as many pointers and roots as may be", same(1, 0, 0, 0, 0), zeros, to(0), same(1, 0, 0, 0, 0), zeros},
		{"no root, a ring", ring(3), nil, nil, nil, nil},
		{"no root, all point to four", same(api.MaxNodes, 0, 1, 2, 3), nil, nil, nil, nil},
		{"only one of all, that points to nothing", bare(4), to(2), to(2), bare(1), to(0)},
		{"the last of all alone", bare(api.MaxNodes), to(11), to(11), bare(1), to(0)},
		{"the last of all alone, that points to itself", same(api.MaxNodes, 11), to(11), to(11), same(1, 0), to(0)},
		{"roots in their order, not in the nodes'", bare(4), to(3, 0, 2), to(3, 0, 2), bare(3), to(0, 1, 2)},
		{"roots twice", bare(4), to(3, 1, 3, 1), to(3, 1), bare(2), to(0, 1, 0, 1)},
		{"all nodes are roots, from the last on", bare(api.MaxNodes), falling(api.MaxNodes), falling(api.MaxNodes), bare(api.MaxNodes), all},
		{"all nodes are roots, and point on to the next", ring(api.MaxNodes), falling(api.MaxNodes), falling(api.MaxNodes), with(turned(api.MaxNodes), 0, 11), all},
		{"roots ahead of what the first one points to", row(4), to(0, 2), to(0, 2, 1, 3), [][]int{to(2), to(3), to(1), nil}, to(0, 1)},
		{"a root that is pointed to by one ahead of it", row(3), to(0, 2, 1), to(0, 2, 1), [][]int{to(2), nil, to(1)}, to(0, 1, 2)},
		{"along a row, from its middle on", row(5), to(2), to(2, 3, 4), row(3), to(0)},
		{"along the longest row", row(api.MaxNodes), to(0), all, row(api.MaxNodes), to(0)},
		{"along the longest row, numbered from its end on", turned(api.MaxNodes), to(11), falling(api.MaxNodes), row(api.MaxNodes), to(0)},
		{"pointers in their order, not in the nodes'", [][]int{to(3, 1, 4, 2), nil, nil, nil, nil}, to(0), to(0, 3, 1, 4, 2), [][]int{to(1, 2, 3, 4), nil, nil, nil, nil}, to(0)},
		{"as near as may be, not as deep", [][]int{to(1, 2), to(3), to(4), nil, nil}, to(0), to(0, 1, 2, 3, 4), [][]int{to(1, 2), to(3), to(4), nil, nil}, to(0)},
		{"what the first node of the order points to first", [][]int{to(4), to(3), to(1, 0), nil, nil}, to(2), to(2, 1, 0, 3, 4), [][]int{to(1, 2), to(3), to(4), nil, nil}, to(0)},
		{"what the first root points to first", [][]int{to(2), to(3), nil, nil}, to(1, 0), to(1, 0, 3, 2), [][]int{to(2), to(3), nil, nil}, to(0, 1)},
		{"what is pointed to ahead is not copied again", [][]int{to(1, 2), to(3, 2), nil, to(1)}, to(0), to(0, 1, 2, 3), [][]int{to(1, 2), to(3, 2), nil, to(1)}, to(0)},
		{"the same pointer more than once", [][]int{to(2, 2, 1, 2), to(2, 1), nil}, to(0), to(0, 2, 1), [][]int{to(1, 1, 2, 1), nil, to(1, 2)}, to(0)},
		{"two ways to one node", [][]int{to(2, 1), to(3), to(3), nil}, to(0), to(0, 2, 1, 3), [][]int{to(1, 2), to(3), to(3), nil}, to(0)},
		{"a short way ahead of a long one that began first", [][]int{to(1, 4), to(2), to(3), nil, to(3)}, to(0), to(0, 1, 4, 2, 3), [][]int{to(1, 2), to(3), to(4), to(4), nil}, to(0)},
		{"a ring of two", ring(2), to(1), to(1, 0), ring(2), to(0)},
		{"the longest ring, from its middle on", ring(api.MaxNodes), to(7), to(7, 8, 9, 10, 11, 0, 1, 2, 3, 4, 5, 6), ring(api.MaxNodes), to(0)},
		{"the longest ring, from two nodes on", ring(api.MaxNodes), to(6, 0), to(6, 0, 7, 1, 8, 2, 9, 3, 10, 4, 11, 5), [][]int{to(2), to(3), to(4), to(5), to(6), to(7), to(8), to(9), to(10), to(11), to(1), to(0)}, to(0, 1)},
		{"into a ring", [][]int{nil, to(3), to(4), to(2), to(3)}, to(1), to(1, 3, 2, 4), [][]int{to(1), to(2), to(3), to(1)}, to(0)},
		{"out of a ring", [][]int{to(1), to(0, 2), to(3), nil}, to(1), to(1, 0, 2, 3), [][]int{to(1, 2), to(0), to(3), nil}, to(0)},
		{"two rings, one of them is come to", [][]int{to(1), to(0), to(3), to(2)}, to(3), to(3, 2), ring(2), to(0)},
		{"two rings that share a node", [][]int{to(1), to(2), to(0, 3), to(4), to(2)}, to(4), to(4, 2, 0, 3, 1), [][]int{to(1), to(2, 3), to(4), to(0), to(1)}, to(0)},
		{"what is not copied points to what is", [][]int{to(1), to(2), nil}, to(1), to(1, 2), row(2), to(0)},
		{"what is not copied lies between", [][]int{to(2), to(1, 3), to(4), to(0), to(0)}, to(0), to(0, 2, 4), ring(3), to(0)},
		{"pointers and roots, numbered anew", [][]int{nil, to(5, 3, 1, 5), nil, to(1, 5), nil, nil}, to(3, 5, 3), to(3, 5, 1), [][]int{to(2, 1), nil, to(1, 0, 2, 1)}, to(0, 1, 0)},
		{"all point to four", same(api.MaxNodes, 3, 11, 0, 8), to(5), to(5, 3, 11, 0, 8), same(5, 1, 2, 3, 4), to(0)},
		{"all point to four, and some are roots", same(api.MaxNodes, 3, 11, 0, 8), to(8, 5, 11), to(8, 5, 11, 3, 0), same(5, 3, 2, 4, 0), to(0, 1, 2)},
		{"a tree, two by two", [][]int{to(1, 6), to(2, 5), to(3, 4), nil, nil, nil, to(7, 8), nil, nil}, to(0), to(0, 1, 6, 2, 5, 7, 8, 3, 4), [][]int{to(1, 2), to(3, 4), to(5, 6), to(7, 8), nil, nil, nil, nil, nil}, to(0)},
	}
	for _, c := range cases {
		t.Run(c.name, func(t *testing.T) {
			h := api.Heap{Outs: c.outs, Roots: c.roots}
			want := answered(c.order, c.copied, c.copiedRoots)
			if got := told(h); !got.is(want) {
				t.Errorf("told %v, want %v", got, want)
			}
		})
	}
}

func TestFaults(t *testing.T) {
	full := ring(api.MaxNodes)
	over := ring(api.MaxNodes + 1)
	roots := upTo(api.MaxNodes)
	more := make([]int, api.MaxNodes+1)
	cases := []struct {
		name  string
		outs  [][]int
		roots []int
		want  api.Errno
	}{
		{"a node more than MaxNodes", over, to(0), api.ErrFull},
		{"a node more, no root, no pointer", bare(api.MaxNodes + 1), nil, api.ErrFull},
		{"far too many nodes", row(1_000), to(0), api.ErrFull},
		{"a root more than MaxNodes", full, more, api.ErrFull},
		{"a root more, though there is one node", bare(1), more, api.ErrFull},
		{"far too many roots", full, make([]int, 1_000), api.ErrFull},
		{"a root is the number of nodes", bare(3), to(3), api.ErrRange},
		{"a root is MaxNodes, of MaxNodes nodes", full, to(api.MaxNodes), api.ErrRange},
		{"a root of no nodes", nil, to(0), api.ErrRange},
		{"a root below 0", full, to(-1), api.ErrRange},
		{"a root at the first number", full, to(math.MinInt), api.ErrRange},
		{"a root at the last number", full, to(math.MaxInt), api.ErrRange},
		{"only the last root is none", full, append(upTo(api.MaxNodes-1), 12), api.ErrRange},
		{"a pointer more than MaxOuts", [][]int{to(0, 0, 0, 0, 0)}, to(0), api.ErrFull},
		{"a pointer more, of a node that can't be come to", with(bare(3), 1, 0, 1, 2, 0, 1), to(0), api.ErrFull},
		{"far too many pointers", with(full, 4, make([]int, 1_000)...), to(0), api.ErrFull},
		{"a pointer is the number of nodes", [][]int{to(1), to(2)}, to(0), api.ErrRange},
		{"a pointer is MaxNodes, of MaxNodes nodes", with(full, 0, api.MaxNodes), to(0), api.ErrRange},
		{"a pointer below 0", with(full, 0, -1), to(0), api.ErrRange},
		{"a pointer at the first number", with(full, 0, math.MinInt), to(0), api.ErrRange},
		{"a pointer at the last number", with(full, 0, math.MaxInt), to(0), api.ErrRange},
		{"only the last pointer of the last node is none", with(full, 11, 0, 1, 2, 12), to(0), api.ErrRange},
		{"a pointer that is none, no root", [][]int{nil, to(2)}, nil, api.ErrRange},
		{"a pointer that is none, of a node that can't be come to", [][]int{nil, to(2)}, to(0), api.ErrRange},
		{"too many nodes ahead of a root that is none", over, to(-1), api.ErrFull},
		{"too many nodes ahead of a pointer that is none", with(over, 0, -1), to(0), api.ErrFull},
		{"too many roots ahead of a root that is none", full, append(to(-1), roots...), api.ErrFull},
		{"too many roots ahead of a root of no nodes", nil, more, api.ErrFull},
		{"too many roots ahead of a pointer that is none", with(full, 0, -1), more, api.ErrFull},
		{"a root that is none ahead of too many pointers", with(full, 0, 0, 0, 0, 0, 0), to(0, 12), api.ErrRange},
		{"too many pointers ahead of one that is none", with(full, 3, -1, 0, 0, 0, 0), to(0), api.ErrFull},
		{"a pointer that is none ahead of too many of a later node", with(with(full, 3, 0, 12), 4, 0, 0, 0, 0, 0), to(0), api.ErrRange},
		{"too many pointers ahead of one that is none of a later node", with(with(full, 3, 0, 0, 0, 0, 0), 4, 12), to(0), api.ErrFull},
		{"an earlier node's fault, though a later one is come to first", with(with(full, 3, 0, 12), 9, 0, 0, 0, 0, 0), to(9), api.ErrRange},
	}
	for _, c := range cases {
		t.Run(c.name, func(t *testing.T) {
			h := api.Heap{Outs: c.outs, Roots: c.roots}
			want := refused(c.want)
			for range 2 {
				if got := told(h); !got.is(want) {
					t.Errorf("told %v, want %v", got, want)
				}
			}
		})
	}
}

// faults gives all that is wrong with a heap, in the order in which it is to be told.
func faults(h api.Heap) []api.Errno {
	var list []api.Errno
	wrong := func(is bool, fault api.Errno) {
		if is {
			list = append(list, fault)
		}
	}
	all := upTo(len(h.Outs))
	wrong(len(h.Outs) >= 13, api.ErrFull)
	wrong(len(h.Roots) >= 13, api.ErrFull)
	for _, root := range h.Roots {
		wrong(!slices.Contains(all, root), api.ErrRange)
	}
	for _, outs := range h.Outs {
		wrong(len(outs) >= 5, api.ErrFull)
		for _, node := range outs {
			wrong(!slices.Contains(all, node), api.ErrRange)
		}
	}
	return list
}

// byWay holds two ways against each other: the shorter one is ahead, and of two as long the one that first takes an earlier root or pointer.
func byWay(a, b []int) int {
	if len(a) != len(b) {
		return cmp.Compare(len(a), len(b))
	}
	return slices.Compare(a, b)
}

// ways gives the first way to each node that can be come to: a place among the roots, then places among pointers.
func ways(h api.Heap) map[int][]int {
	first := map[int][]int{}
	changed := false
	take := func(node int, way []int) {
		if known, ok := first[node]; !ok || byWay(way, known) < 0 {
			first[node], changed = way, true
		}
	}
	for place, root := range h.Roots {
		take(root, to(place))
	}
	for changed {
		changed = false
		for node, outs := range h.Outs {
			for place, below := range outs {
				if way, ok := first[node]; ok {
					take(below, append(slices.Clone(way), place))
				}
			}
		}
	}
	return first
}

// expected gives what is to be told of a heap: nodes lie as the first ways to them do.
func expected(h api.Heap) answer {
	if list := faults(h); len(list) > 0 {
		return refused(list[0])
	}
	var order []int
	first := ways(h)
	for node := range first {
		order = append(order, node)
	}
	slices.SortFunc(order, func(a, b int) int { return byWay(first[a], first[b]) })
	number := map[int]int{}
	for at, node := range order {
		number[node] = at
	}
	outs := bare(len(order))
	for at, node := range order {
		for _, below := range h.Outs[node] {
			outs[at] = append(outs[at], number[below])
		}
	}
	var roots []int
	for _, root := range h.Roots {
		roots = append(roots, number[root])
	}
	return answered(order, outs, roots)
}

// compare holds what is told of a heap against what is to be told.
func compare(t *testing.T, h api.Heap) {
	t.Helper()
	if got, want := told(h), expected(h); !got.is(want) {
		t.Fatalf("%v: told %v, want %v", h, got, want)
	}
}

// listsOf gives all lists of up to so many of some numbers.
func listsOf(most int, numbers []int) [][]int {
	all := [][]int{nil}
	for from := 0; most > 0; most-- {
		till := len(all)
		for ; from < till; from++ {
			for _, number := range numbers {
				all = append(all, append(slices.Clone(all[from]), number))
			}
		}
	}
	return all
}

// eachHeap asks for all heaps of so many nodes whose roots and pointers are any of some lists.
func eachHeap(nodes int, roots, pointers [][]int, ask func(api.Heap)) {
	outs := bare(nodes)
	var fill func(node int)
	fill = func(node int) {
		if node < nodes {
			for _, outs[node] = range pointers {
				fill(node + 1)
			}
			return
		}
		for _, list := range roots {
			ask(api.Heap{Outs: outs, Roots: list})
		}
	}
	fill(0)
}

// All heaps of up to three nodes, of at most two pointers each, in any order and more than once.
func TestAllSmall(t *testing.T) {
	for nodes := range 4 {
		lists := listsOf(2, upTo(nodes))
		eachHeap(nodes, lists, lists, func(h api.Heap) { compare(t, h) })
	}
}

// All heaps of two nodes, of as many pointers as may be.
func TestAllPointers(t *testing.T) {
	eachHeap(2, listsOf(3, upTo(2)), listsOf(api.MaxOuts, upTo(2)), func(h api.Heap) { compare(t, h) })
}

// All heaps of four nodes, of two pointers each, from one root on, or two.
func TestAllOfFour(t *testing.T) {
	pointers := listsOf(2, upTo(4))[5:]
	eachHeap(4, [][]int{to(0), to(3, 1)}, pointers, func(h api.Heap) { compare(t, h) })
}

// All heaps of up to three nodes with numbers that may be none, and numbers of pointers that may be too many.
func TestAllFaults(t *testing.T) {
	for nodes := range 4 {
		numbers := to(-1, 0, nodes)
		roots := append(listsOf(2, numbers), make([]int, api.MaxNodes), make([]int, api.MaxNodes+1))
		pointers := append(listsOf(1, numbers), to(0, 0, 0, 0), to(0, 0, 0, 0, 0), to(0, 0, 0, -1), to(0, nodes, 0, 0, 0))
		eachHeap(nodes, roots, pointers, func(h api.Heap) { compare(t, h) })
	}
}

// scattered gives a source of numbers that jump about below a bound, the same ones for the same seed.
func scattered(seed int) func(below int) int {
	state := uint64(seed) + 1
	return func(below int) int {
		state = state*6364136223846793005 + 1442695040888963407
		return int(state >> 33 % uint64(below))
	}
}

// some gives up to so many scattered numbers below a bound.
func some(next func(below int) int, most, below int) []int {
	list := make([]int, next(most+1))
	for i := range list {
		list[i] = next(below)
	}
	return list
}

// great gives a heap of several nodes; of some seeds there are few pointers, so that much is not copied.
func great(seed int) api.Heap {
	next := scattered(seed)
	outs := bare(5 + next(api.MaxNodes-4))
	for node := range outs {
		outs[node] = some(next, 1+seed%api.MaxOuts, len(outs))
	}
	return api.Heap{Outs: outs, Roots: some(next, 1+next(api.MaxNodes), len(outs))}
}

func TestGreat(t *testing.T) {
	for seed := range 20_000 {
		compare(t, great(seed))
	}
}

// Heaps as great, with one number or one list among them spoilt, or more.
func TestGreatFaults(t *testing.T) {
	wrong := []int{-1, 12, 13, 63, 64, math.MinInt, math.MaxInt, 1 << 32, -1 << 32}
	for seed := range 10_000 {
		h, next := great(seed), scattered(seed+1_000_000)
		for range 1 + next(3) {
			node := next(len(h.Outs))
			switch next(4) {
			case 0:
				h.Roots = append(h.Roots, wrong[next(len(wrong))])
			case 1:
				h.Outs[node] = append(h.Outs[node], wrong[next(len(wrong))])
			case 2:
				h.Outs[node] = append(h.Outs[node], 0)
			case 3:
				h.Roots = append(h.Roots, node)
			}
		}
		compare(t, h)
	}
}

// Just what can be come to is copied, once each; and a copy, copied again, stays as it is.
func TestCopyOfACopy(t *testing.T) {
	for seed := range 5_000 {
		h := great(seed)
		first := told(h)
		reach, _ := graph.Reach(h)
		set := 0
		for _, node := range first.order {
			if set>>node&1 == 1 {
				t.Fatalf("%v: copied %v, node %d twice", h, first.order, node)
			}
			set |= 1 << node
		}
		if set != reach {
			t.Fatalf("%v: copied %v, what can be come to is %b", h, first.order, reach)
		}
		again := told(first.heap)
		if !slices.Equal(again.order, upTo(len(first.order))) || !sameHeaps(again.heap, first.heap) {
			t.Fatalf("%v: the copy is %v, copied again %v, in the order %v", h, first.heap, again.heap, again.order)
		}
	}
}

// What was copied has its shape: the roots of both, and what two nodes of one number point to, place by place, are of one number too.
func TestShapeStays(t *testing.T) {
	for seed := range 5_000 {
		h := great(seed)
		got := told(h)
		old := func(list []int) (was []int) {
			for _, node := range list {
				was = append(was, got.order[node])
			}
			return was
		}
		if !slices.Equal(old(got.heap.Roots), h.Roots) || len(got.heap.Outs) != len(got.order) {
			t.Fatalf("%v: copied %v in the order %v", h, got.heap, got.order)
		}
		for now, was := range got.order {
			if !slices.Equal(old(got.heap.Outs[now]), h.Outs[was]) {
				t.Fatalf("%v: node %d is copied as %d, which points to %v", h, was, now, got.heap.Outs[now])
			}
		}
	}
}

// A heap that was swept first has the same copy: nodes that can't be come to change nothing.
func TestSweptFirst(t *testing.T) {
	for seed := range 5_000 {
		h := great(seed)
		left, swept, err := sweep.Sweep(h)
		if err != nil {
			t.Fatalf("%v: %v", h, err)
		}
		got, plainly := told(swept), told(h)
		var order []int
		for _, node := range got.order {
			order = append(order, left[node])
		}
		if !slices.Equal(order, plainly.order) || !sameHeaps(got.heap, plainly.heap) {
			t.Fatalf("%v: copied %v, swept first %v", h, plainly, got)
		}
	}
}

// behind gives a list in whose memory more stands behind its length, and all of that memory.
func behind(list []int) (short, whole []int) {
	whole = append(slices.Clone(list), 1, -5, 99)
	return whole[:len(list)], whole
}

// asked are heaps of all kinds, those that are refused too.
func asked() []api.Heap {
	return []api.Heap{
		{},
		{Outs: bare(2), Roots: to(1)},
		{Outs: [][]int{to(2, 1), to(0), to(2), nil}, Roots: to(1, 3, 1)},
		{Outs: [][]int{to(2), to(1, 3), to(4), to(0), to(0)}, Roots: to(0)},
		{Outs: ring(4), Roots: to(0)},
		{Outs: ring(api.MaxNodes), Roots: upTo(api.MaxNodes)},
		{Outs: same(api.MaxNodes, 3, 11, 0, 8), Roots: to(5, 3)},
		{Outs: ring(api.MaxNodes + 1), Roots: to(0)},
		{Outs: bare(2), Roots: make([]int, api.MaxNodes+1)},
		{Outs: bare(2), Roots: to(0, 2)},
		{Outs: same(2, 0, 1, 0, 1, 0), Roots: to(1)},
		{Outs: [][]int{to(1), to(0, -1)}, Roots: to(1)},
	}
}

func TestListsAreLeftAlone(t *testing.T) {
	for _, h := range asked() {
		want := expected(h)
		var lent api.Heap
		var whole [][]int
		for _, outs := range h.Outs {
			short, all := behind(outs)
			lent.Outs, whole = append(lent.Outs, short), append(whole, all)
		}
		short, all := behind(h.Roots)
		lent.Roots, whole = short, append(whole, all)
		rows := append(slices.Clone(lent.Outs), to(0, 0, 0, 0, 0), to(-1))
		lent.Outs = rows[:len(h.Outs)]
		was := fmt.Sprint(lent, whole, rows)
		if got := told(lent); !got.is(want) {
			t.Errorf("%v: with more behind the lengths told %v, want %v", h, got, want)
		}
		if now := fmt.Sprint(lent, whole, rows); now != was {
			t.Errorf("lists were %s, are %s", was, now)
		}
	}
}

// lists gives all lists of an answer, and what stands behind their lengths.
func (a answer) lists() [][]int {
	all := append([][]int{a.order, a.heap.Roots}, a.heap.Outs...)
	for i, list := range all {
		all[i] = list[:cap(list)]
	}
	return all
}

// Whatever is written into a list of an answer, no other one has it, nor has the heap, nor a later answer.
func TestAnswersAreFresh(t *testing.T) {
	for _, h := range asked() {
		was, want := fmt.Sprint(h), expected(h)
		got := told(h)
		for i, list := range got.lists() {
			for at := range list {
				list[at] = -100 - i
			}
		}
		for i, list := range got.lists() {
			for _, number := range list {
				if number != -100-i {
					t.Fatalf("%v: list %d has %v, which was written into another one", h, i, list)
				}
			}
		}
		clear(got.heap.Outs[:cap(got.heap.Outs)])
		if now := fmt.Sprint(h); now != was {
			t.Errorf("the heap was %s, is %s", was, now)
		}
		if again := told(h); !again.is(want) {
			t.Errorf("%v: told %v, want %v", h, again, want)
		}
	}
}

// What was told once is told again, whatever was asked between, and whatever is written into the lists then; and it stays as it was told.
func TestNothingIsKeptBetweenCalls(t *testing.T) {
	for i, h := range asked() {
		want, early := expected(h), told(h)
		for _, other := range asked() {
			told(other)
			for _, outs := range other.Outs {
				for i := range outs {
					outs[i] = -7
				}
			}
			clear(other.Outs)
			clear(other.Roots)
			if got := told(h); !got.is(want) || !early.is(want) {
				t.Errorf("%v: behind %v told %v, was told %v, want %v", h, other, got, early, want)
			}
		}
		for _, outs := range h.Outs {
			clear(outs)
		}
		clear(h.Roots)
		clear(h.Outs)
		if same := expected(asked()[i]); !early.is(same) {
			t.Errorf("was told %v, is %v, with the heap emptied", same, early)
		}
	}
}

// Nodes may share one list of pointers, and roots may be one of them; what comes out shares none.
func TestListsMayBeShared(t *testing.T) {
	list := to(1, 2)
	h := api.Heap{Outs: [][]int{list, list, list, list[1:]}, Roots: list[1:]}
	want := answered(to(2, 1), same(2, 1, 0), to(0))
	got := told(h)
	if !got.is(want) {
		t.Errorf("told %v, want %v", got, want)
	}
	got.order[0], got.heap.Roots[0], got.heap.Outs[0][0] = 9, 9, 9
	if !slices.Equal(list, to(1, 2)) || !slices.Equal(got.heap.Outs[1], to(1, 0)) {
		t.Errorf("the list is %v, what was told is %v", list, got)
	}
}
