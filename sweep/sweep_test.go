package sweep_test

import (
	"fmt"
	"math"
	"slices"
	"testing"

	"larderwick/api"
	"larderwick/graph"
	"larderwick/plain"
	"larderwick/sweep"
)

// to gives the pointers of a node.
func to(nodes ...int) []int { return nodes }

// upTo gives the numbers below a bound, rising.
func upTo(bound int) []int {
	list := make([]int, bound)
	for i := range list {
		list[i] = i
	}
	return list
}

// falling gives the numbers below a bound, from the last one on.
func falling(bound int) []int {
	list := upTo(bound)
	slices.Reverse(list)
	return list
}

// bare gives so many nodes that point to nothing.
func bare(many int) [][]int { return make([][]int, many) }

// same gives so many nodes, each with the same pointers.
func same(many int, outs ...int) [][]int { return slices.Repeat([][]int{outs}, many) }

// row gives so many nodes, each of which points to the one behind it.
func row(many int) [][]int {
	outs := bare(many)
	for i := range many - 1 {
		outs[i] = to(i + 1)
	}
	return outs
}

// turned gives so many nodes, each of which points to the one ahead of it.
func turned(many int) [][]int {
	outs := bare(many)
	for i := 1; i < many; i++ {
		outs[i] = to(i - 1)
	}
	return outs
}

// ring gives a row whose last node points to the first.
func ring(many int) [][]int {
	return with(row(many), many-1, 0)
}

// with gives a copy of the pointers of nodes in which one node has others.
func with(outs [][]int, node int, others ...int) [][]int {
	changed := slices.Clone(outs)
	changed[node] = others
	return changed
}

// answer is what all three calls tell of a heap.
type answer struct {
	mark, turn []int
	outs       [][]int
	left       []int
	heap       api.Heap
	faults     [3]api.Errno
}

// told gives what all three calls tell of a heap.
func told(h api.Heap) (a answer) {
	var e1, e2, e3 error
	a.mark, e1 = sweep.Mark(h)
	a.turn, a.outs, e2 = sweep.Turn(h)
	a.left, a.heap, e3 = sweep.Sweep(h)
	a.faults = [3]api.Errno{plain.Told(e1), plain.Told(e2), plain.Told(e3)}
	return a
}

// answered gives what is to be told of a heap without faults: the order of marking, and what is left.
func answered(h api.Heap, order, left []int, outs [][]int, roots []int) answer {
	return answer{mark: order, turn: order, outs: h.Outs, left: left, heap: api.Heap{Outs: outs, Roots: roots}}
}

// refused gives what is to be told of a heap that has a fault.
func refused(fault api.Errno) answer {
	return answer{faults: [3]api.Errno{fault, fault, fault}}
}

// sameRows tells whether two lists of lists hold the same.
func sameRows(a, b [][]int) bool { return slices.EqualFunc(a, b, slices.Equal[[]int]) }

// is tells whether two answers are the same; an empty list and nil are.
func (a answer) is(b answer) bool {
	return a.faults == b.faults &&
		slices.Equal(a.mark, b.mark) &&
		slices.Equal(a.turn, b.turn) && sameRows(a.outs, b.outs) &&
		slices.Equal(a.left, b.left) && sameRows(a.heap.Outs, b.heap.Outs) && slices.Equal(a.heap.Roots, b.heap.Roots)
}

func TestMarkAndSweep(t *testing.T) {
	all := upTo(api.MaxNodes)
	cases := []struct {
		name        string
		outs        [][]int
		roots       []int
		order, left []int
		leftOuts    [][]int
		leftRoots   []int
	}{
		{"nil, no node", nil, nil, nil, nil, nil, nil},
		{"empty, no node", [][]int{}, []int{}, nil, nil, nil, nil},
		{"one node, no root", bare(1), nil, nil, nil, nil, nil},
		{"one node, and a root", bare(1), to(0), to(0), to(0), bare(1), to(0)},
		{"pointers that are nil, or empty", [][]int{nil, {}}, to(1, 0), to(1, 0), to(0, 1), bare(2), to(1, 0)},
		{"one node, that points to itself", same(1, 0), to(0), to(0), to(0), same(1, 0), to(0)},
		{"one node, as many pointers and roots as may be", same(1, 0, 0, 0, 0), make([]int, api.MaxNodes), to(0), to(0), same(1, 0, 0, 0, 0), make([]int, api.MaxNodes)},
		{"no root, a ring", ring(3), nil, nil, nil, nil, nil},
		{"no root, all point to four", same(api.MaxNodes, 0, 1, 2, 3), nil, nil, nil, nil, nil},
		{"only one of all, that points to nothing", bare(4), to(2), to(2), to(2), bare(1), to(0)},
		{"the last of all alone", bare(api.MaxNodes), to(11), to(11), to(11), bare(1), to(0)},
		{"the last of all alone, that points to itself", same(api.MaxNodes, 11), to(11), to(11), to(11), same(1, 0), to(0)},
		{"roots in their order", bare(4), to(3, 0, 2), to(3, 0, 2), to(0, 2, 3), bare(3), to(2, 0, 1)},
		{"roots twice", bare(4), to(3, 1, 3, 1), to(3, 1), to(1, 3), bare(2), to(1, 0, 1, 0)},
		{"all nodes are roots, from the last on", bare(api.MaxNodes), falling(api.MaxNodes), falling(api.MaxNodes), all, bare(api.MaxNodes), falling(api.MaxNodes)},
		{"a root that was come to already", row(3), to(0, 2, 1), to(0, 1, 2), upTo(3), row(3), to(0, 2, 1)},
		{"a root that comes to what was marked", row(4), to(2, 0), to(2, 3, 0, 1), upTo(4), row(4), to(2, 0)},
		{"a root that comes back to what it was marked by", [][]int{to(1), nil, to(0, 3), nil}, to(0, 2), to(0, 1, 2, 3), upTo(4), [][]int{to(1), nil, to(0, 3), nil}, to(0, 2)},
		{"along a row, from its middle on", row(5), to(2), to(2, 3, 4), to(2, 3, 4), row(3), to(0)},
		{"along the longest row", row(api.MaxNodes), to(0), all, all, row(api.MaxNodes), to(0)},
		{"along the longest row, numbered from its end on", turned(api.MaxNodes), to(11), falling(api.MaxNodes), all, turned(api.MaxNodes), to(11)},
		{"pointers in their order", [][]int{to(3, 1, 4, 2), nil, nil, nil, nil}, to(0), to(0, 3, 1, 4, 2), upTo(5), [][]int{to(3, 1, 4, 2), nil, nil, nil, nil}, to(0)},
		{"as deep as may be, not as near", [][]int{to(1, 2), to(3), to(4), nil, nil}, to(0), to(0, 1, 3, 2, 4), upTo(5), [][]int{to(1, 2), to(3), to(4), nil, nil}, to(0)},
		{"a node is marked ahead of what it points to", [][]int{nil, to(0), to(1)}, to(2), to(2, 1, 0), upTo(3), [][]int{nil, to(0), to(1)}, to(2)},
		{"what is pointed to ahead is marked when it is come to", [][]int{to(1, 2), to(3, 2), nil, nil}, to(0), to(0, 1, 3, 2), upTo(4), [][]int{to(1, 2), to(3, 2), nil, nil}, to(0)},
		{"what the last pointer points to is come to by the first one's way", [][]int{to(1, 2), to(2, 3), nil, nil}, to(0), to(0, 1, 2, 3), upTo(4), [][]int{to(1, 2), to(2, 3), nil, nil}, to(0)},
		{"the first root is gone through ahead of the second", [][]int{to(2), to(3), to(4), nil, nil}, to(0, 1), to(0, 2, 4, 1, 3), upTo(5), [][]int{to(2), to(3), to(4), nil, nil}, to(0, 1)},
		{"the same pointer more than once", [][]int{to(2, 2, 1, 2), to(2, 1), nil}, to(0), to(0, 2, 1), upTo(3), [][]int{to(2, 2, 1, 2), to(2, 1), nil}, to(0)},
		{"two ways to one node", [][]int{to(1, 2), to(3), to(3), nil}, to(0), to(0, 1, 3, 2), upTo(4), [][]int{to(1, 2), to(3), to(3), nil}, to(0)},
		{"a ring of two", ring(2), to(1), to(1, 0), to(0, 1), ring(2), to(1)},
		{"the longest ring, from its middle on", ring(api.MaxNodes), to(7), to(7, 8, 9, 10, 11, 0, 1, 2, 3, 4, 5, 6), all, ring(api.MaxNodes), to(7)},
		{"into a ring", [][]int{nil, to(3), to(4), to(2), to(3)}, to(1), to(1, 3, 2, 4), to(1, 2, 3, 4), [][]int{to(2), to(3), to(1), to(2)}, to(0)},
		{"out of a ring", [][]int{to(1), to(0, 2), to(3), nil}, to(0), upTo(4), upTo(4), [][]int{to(1), to(0, 2), to(3), nil}, to(0)},
		{"two rings, one of them is come to", [][]int{to(1), to(0), to(3), to(2)}, to(3), to(3, 2), to(2, 3), ring(2), to(1)},
		{"two rings that share a node", [][]int{to(1), to(2), to(0, 3), to(4), to(2)}, to(4), to(4, 2, 0, 1, 3), upTo(5), [][]int{to(1), to(2), to(0, 3), to(4), to(2)}, to(4)},
		{"what is swept points to what is left", [][]int{to(1), to(2), nil}, to(1), to(1, 2), to(1, 2), row(2), to(0)},
		{"what is swept lies between", [][]int{to(2), to(1, 3), to(4), to(0), to(0)}, to(0), to(0, 2, 4), to(0, 2, 4), ring(3), to(0)},
		{"pointers that do not rise, numbered anew", [][]int{nil, to(5, 3, 1, 5), nil, to(3, 1), nil, nil}, to(3, 5, 3), to(3, 1, 5), to(1, 3, 5), [][]int{to(2, 1, 0, 2), to(1, 0), nil}, to(1, 2, 1)},
		{"all point to four", same(api.MaxNodes, 3, 11, 0, 8), to(5), to(5, 3, 11, 0, 8), to(0, 3, 5, 8, 11), same(5, 1, 4, 0, 3), to(2)},
		{"a tree, two by two", [][]int{to(1, 2), to(3, 4), to(5, 6), to(7, 8), to(9, 10), nil, nil, nil, nil, nil, nil}, to(0), to(0, 1, 3, 7, 8, 4, 9, 10, 2, 5, 6), upTo(11), [][]int{to(1, 2), to(3, 4), to(5, 6), to(7, 8), to(9, 10), nil, nil, nil, nil, nil, nil}, to(0)},
		{"up from the deepest, and down again", [][]int{to(1, 4), to(2, 3), to(0), to(0, 5), nil, to(6), to(1)}, to(0), to(0, 1, 2, 3, 5, 6, 4), upTo(7), [][]int{to(1, 4), to(2, 3), to(0), to(0, 5), nil, to(6), to(1)}, to(0)},
	}
	for _, c := range cases {
		t.Run(c.name, func(t *testing.T) {
			h := api.Heap{Outs: c.outs, Roots: c.roots}
			want := answered(h, c.order, c.left, c.leftOuts, c.leftRoots)
			if got := told(h); !got.is(want) {
				t.Errorf("told %v, want %v", got, want)
			}
		})
	}
}

func TestFaults(t *testing.T) {
	full := ring(api.MaxNodes)
	over := ring(api.MaxNodes + 1)
	roots := upTo(api.MaxNodes)
	more := make([]int, api.MaxNodes+1)
	cases := []struct {
		name  string
		outs  [][]int
		roots []int
		want  api.Errno
	}{
		{"a node more than MaxNodes", over, to(0), api.ErrFull},
		{"a node more, no root, no pointer", bare(api.MaxNodes + 1), nil, api.ErrFull},
		{"far too many nodes", row(1_000), to(0), api.ErrFull},
		{"a root more than MaxNodes", full, more, api.ErrFull},
		{"a root more, though there is one node", bare(1), more, api.ErrFull},
		{"far too many roots", full, make([]int, 1_000), api.ErrFull},
		{"a root is the number of nodes", bare(3), to(3), api.ErrRange},
		{"a root is MaxNodes, of MaxNodes nodes", full, to(api.MaxNodes), api.ErrRange},
		{"a root of no nodes", nil, to(0), api.ErrRange},
		{"a root below 0", full, to(-1), api.ErrRange},
		{"a root at the first number", full, to(math.MinInt), api.ErrRange},
		{"a root at the last number", full, to(math.MaxInt), api.ErrRange},
		{"only the last root is none", full, append(upTo(api.MaxNodes-1), 12), api.ErrRange},
		{"a pointer more than MaxOuts", [][]int{to(0, 0, 0, 0, 0)}, to(0), api.ErrFull},
		{"a pointer more, of a node that can't be come to", with(bare(3), 1, 0, 1, 2, 0, 1), to(0), api.ErrFull},
		{"far too many pointers", with(full, 4, make([]int, 1_000)...), to(0), api.ErrFull},
		{"a pointer is the number of nodes", [][]int{to(1), to(2)}, to(0), api.ErrRange},
		{"a pointer is MaxNodes, of MaxNodes nodes", with(full, 0, api.MaxNodes), to(0), api.ErrRange},
		{"a pointer below 0", with(full, 0, -1), to(0), api.ErrRange},
		{"a pointer at the first number", with(full, 0, math.MinInt), to(0), api.ErrRange},
		{"a pointer at the last number", with(full, 0, math.MaxInt), to(0), api.ErrRange},
		{"only the last pointer of the last node is none", with(full, 11, 0, 1, 2, 12), to(0), api.ErrRange},
		{"a pointer that is none, no root", [][]int{nil, to(2)}, nil, api.ErrRange},
		{"a pointer that is none, of a node that can't be come to", [][]int{nil, to(2)}, to(0), api.ErrRange},
		{"too many nodes ahead of a root that is none", over, to(-1), api.ErrFull},
		{"too many nodes ahead of a pointer that is none", with(over, 0, -1), to(0), api.ErrFull},
		{"too many roots ahead of a root that is none", full, append(to(-1), roots...), api.ErrFull},
		{"too many roots ahead of a root of no nodes", nil, more, api.ErrFull},
		{"too many roots ahead of a pointer that is none", with(full, 0, -1), more, api.ErrFull},
		{"a root that is none ahead of too many pointers", with(full, 0, 0, 0, 0, 0, 0), to(0, 12), api.ErrRange},
		{"too many pointers ahead of one that is none", with(full, 3, -1, 0, 0, 0, 0), to(0), api.ErrFull},
		{"a pointer that is none ahead of too many of a later node", with(with(full, 3, 0, 12), 4, 0, 0, 0, 0, 0), to(0), api.ErrRange},
		{"too many pointers ahead of one that is none of a later node", with(with(full, 3, 0, 0, 0, 0, 0), 4, 12), to(0), api.ErrFull},
		{"an earlier node's fault, though a later one is come to first", with(with(full, 3, 0, 12), 9, 0, 0, 0, 0, 0), to(9), api.ErrRange},
	}
	for _, c := range cases {
		t.Run(c.name, func(t *testing.T) {
			h := api.Heap{Outs: c.outs, Roots: c.roots}
			want := refused(c.want)
			for range 2 {
				if got := told(h); !got.is(want) {
					t.Errorf("told %v, want %v", got, want)
				}
			}
		})
	}
}

// faults gives all that is wrong with a heap, in the order in which it is to be told.
func faults(h api.Heap) []api.Errno {
	var list []api.Errno
	wrong := func(is bool, fault api.Errno) {
		if is {
			list = append(list, fault)
		}
	}
	all := upTo(len(h.Outs))
	wrong(len(h.Outs) >= 13, api.ErrFull)
	wrong(len(h.Roots) >= 13, api.ErrFull)
	for _, root := range h.Roots {
		wrong(!slices.Contains(all, root), api.ErrRange)
	}
	for _, outs := range h.Outs {
		wrong(len(outs) >= 5, api.ErrFull)
		for _, node := range outs {
			wrong(!slices.Contains(all, node), api.ErrRange)
		}
	}
	return list
}

// byPile gives the nodes in the order of marking: a pile holds what is to be come to, and what is come to next lies on top.
func byPile(h api.Heap) (order []int) {
	var marked [api.MaxNodes]bool
	pile := slices.Clone(h.Roots)
	slices.Reverse(pile)
	for len(pile) > 0 {
		node := pile[len(pile)-1]
		pile = pile[:len(pile)-1]
		if marked[node] {
			continue
		}
		marked[node] = true
		order = append(order, node)
		for _, below := range slices.Backward(h.Outs[node]) {
			pile = append(pile, below)
		}
	}
	return order
}

// lessNodes tells how many nodes have a lesser number than one: its number, when these are all.
func lessNodes(nodes []int, than int) (many int) {
	for _, node := range nodes {
		if node < than {
			many++
		}
	}
	return many
}

// expected gives what all three calls are to tell of a heap.
func expected(h api.Heap) answer {
	if list := faults(h); len(list) > 0 {
		return refused(list[0])
	}
	order := byPile(h)
	left := slices.Sorted(slices.Values(order))
	outs := bare(len(left))
	for _, node := range left {
		at := lessNodes(left, node)
		for _, below := range h.Outs[node] {
			outs[at] = append(outs[at], lessNodes(left, below))
		}
	}
	var roots []int
	for _, root := range h.Roots {
		roots = append(roots, lessNodes(left, root))
	}
	return answered(h, order, left, outs, roots)
}

// compare holds what is told of a heap against what is to be told.
func compare(t *testing.T, h api.Heap) {
	t.Helper()
	if got, want := told(h), expected(h); !got.is(want) {
		t.Fatalf("%v: told %v, want %v", h, got, want)
	}
}

// listsOf gives all lists of up to so many of some numbers.
func listsOf(most int, numbers []int) [][]int {
	all := [][]int{nil}
	for from := 0; most > 0; most-- {
		till := len(all)
		for ; from < till; from++ {
			for _, number := range numbers {
				all = append(all, append(slices.Clone(all[from]), number))
			}
		}
	}
	return all
}

// eachHeap asks for all heaps of so many nodes whose roots and pointers are any of some lists.
func eachHeap(nodes int, roots, pointers [][]int, ask func(api.Heap)) {
	outs := bare(nodes)
	var fill func(node int)
	fill = func(node int) {
		if node < nodes {
			for _, outs[node] = range pointers {
				fill(node + 1)
			}
			return
		}
		for _, list := range roots {
			ask(api.Heap{Outs: outs, Roots: list})
		}
	}
	fill(0)
}

// All heaps of up to three nodes, of at most two pointers each, in any order and more than once.
func TestAllSmall(t *testing.T) {
	for nodes := range 4 {
		lists := listsOf(2, upTo(nodes))
		eachHeap(nodes, lists, lists, func(h api.Heap) { compare(t, h) })
	}
}

// All heaps of two nodes, of as many pointers as may be.
func TestAllPointers(t *testing.T) {
	eachHeap(2, listsOf(3, upTo(2)), listsOf(api.MaxOuts, upTo(2)), func(h api.Heap) { compare(t, h) })
}

// All heaps of four nodes, of two pointers each, from one root on, or two.
func TestAllOfFour(t *testing.T) {
	pointers := listsOf(2, upTo(4))[5:]
	eachHeap(4, [][]int{to(0), to(3, 1)}, pointers, func(h api.Heap) { compare(t, h) })
}

// All heaps of up to three nodes with numbers that may be none, and numbers of pointers that may be too many.
func TestAllFaults(t *testing.T) {
	for nodes := range 4 {
		numbers := to(-1, 0, nodes)
		roots := append(listsOf(2, numbers), make([]int, api.MaxNodes), make([]int, api.MaxNodes+1))
		pointers := append(listsOf(1, numbers), to(0, 0, 0, 0), to(0, 0, 0, 0, 0), to(0, 0, 0, -1), to(0, nodes, 0, 0, 0))
		eachHeap(nodes, roots, pointers, func(h api.Heap) { compare(t, h) })
	}
}

// scattered gives a source of numbers that jump about below a bound, the same ones for the same seed.
func scattered(seed int) func(below int) int {
	state := uint64(seed) + 1
	return func(below int) int {
		state = state*6364136223846793005 + 1442695040888963407
		return int(state >> 33 % uint64(below))
	}
}

// some gives up to so many scattered numbers below a bound.
func some(next func(below int) int, most, below int) []int {
	list := make([]int, next(most+1))
	for i := range list {
		list[i] = next(below)
	}
	return list
}

// great gives a heap of several nodes; of some seeds there are few pointers, so that much is swept.
func great(seed int) api.Heap {
	next := scattered(seed)
	outs := bare(5 + next(api.MaxNodes-4))
	for node := range outs {
		outs[node] = some(next, 1+seed%api.MaxOuts, len(outs))
	}
	return api.Heap{Outs: outs, Roots: some(next, 1+next(api.MaxNodes), len(outs))}
}

func TestGreat(t *testing.T) {
	for seed := range 20_000 {
		compare(t, great(seed))
	}
}

// Heaps as great, with one number or one list among them spoilt, or more.
func TestGreatFaults(t *testing.T) {
	wrong := []int{-1, 12, 13, 63, 64, math.MinInt, math.MaxInt, 1 << 32, -1 << 32}
	for seed := range 10_000 {
		h, next := great(seed), scattered(seed+1_000_000)
		for range 1 + next(3) {
			node := next(len(h.Outs))
			switch next(4) {
			case 0:
				h.Roots = append(h.Roots, wrong[next(len(wrong))])
			case 1:
				h.Outs[node] = append(h.Outs[node], wrong[next(len(wrong))])
			case 2:
				h.Outs[node] = append(h.Outs[node], 0)
			case 3:
				h.Roots = append(h.Roots, node)
			}
		}
		compare(t, h)
	}
}

// Just what can be come to is marked, and left; and of what is left nothing is swept again, nor numbered anew.
func TestWhatIsLeftStays(t *testing.T) {
	for seed := range 5_000 {
		h := great(seed)
		first := told(h)
		reach, _ := graph.Reach(h)
		set := 0
		for _, node := range first.left {
			set |= 1 << node
		}
		if set != reach || len(first.mark) != len(first.left) {
			t.Fatalf("%v: marked %v, left %v, what can be come to is %b", h, first.mark, first.left, reach)
		}
		again := told(first.heap)
		if !slices.Equal(again.left, upTo(len(first.left))) || !sameRows(again.heap.Outs, first.heap.Outs) || !slices.Equal(again.heap.Roots, first.heap.Roots) {
			t.Fatalf("%v: swept it is %v, swept again %v, of which %v are left", h, first.heap, again.heap, again.left)
		}
	}
}

// What is left has its shape: with the old numbers its nodes are marked in the same order, and the same ones are on rings.
func TestShapeStays(t *testing.T) {
	for seed := range 5_000 {
		h := great(seed)
		first := told(h)
		again := told(first.heap)
		var order []int
		for _, node := range again.mark {
			order = append(order, first.left[node])
		}
		if !slices.Equal(order, first.mark) {
			t.Fatalf("%v: marked %v, of what is left %v", h, first.mark, order)
		}
		rounds, _ := graph.Rounds(h)
		roundsLeft, err := graph.Rounds(first.heap)
		for now, was := range first.left {
			if err != nil || rounds>>was&1 != roundsLeft>>now&1 {
				t.Fatalf("%v: rounds are %b, of what is left %b %v", h, rounds, roundsLeft, err)
			}
		}
	}
}

// behind gives a list in whose memory more stands behind its length, and all of that memory.
func behind(list []int) (short, whole []int) {
	whole = append(slices.Clone(list), 1, -5, 99)
	return whole[:len(list)], whole
}

// asked are heaps of all kinds, those that are refused too.
func asked() []api.Heap {
	return []api.Heap{
		{},
		{Outs: bare(2), Roots: to(1)},
		{Outs: [][]int{to(2, 1), to(0), to(2), nil}, Roots: to(1, 3, 1)},
		{Outs: [][]int{to(2), to(1, 3), to(4), to(0), to(0)}, Roots: to(0)},
		{Outs: ring(api.MaxNodes), Roots: upTo(api.MaxNodes)},
		{Outs: same(api.MaxNodes, 3, 11, 0, 8), Roots: to(5, 3)},
		{Outs: ring(api.MaxNodes + 1), Roots: to(0)},
		{Outs: bare(2), Roots: make([]int, api.MaxNodes+1)},
		{Outs: bare(2), Roots: to(0, 2)},
		{Outs: same(2, 0, 1, 0, 1, 0), Roots: to(1)},
		{Outs: [][]int{to(1), to(0, -1)}, Roots: to(1)},
	}
}

func TestListsAreLeftAlone(t *testing.T) {
	for _, h := range asked() {
		want := expected(h)
		var lent api.Heap
		var whole [][]int
		for _, outs := range h.Outs {
			short, all := behind(outs)
			lent.Outs, whole = append(lent.Outs, short), append(whole, all)
		}
		short, all := behind(h.Roots)
		lent.Roots, whole = short, append(whole, all)
		rows := append(slices.Clone(lent.Outs), to(0, 0, 0, 0, 0), to(-1))
		lent.Outs = rows[:len(h.Outs)]
		was := fmt.Sprint(lent, whole, rows)
		if got := told(lent); !got.is(want) {
			t.Errorf("%v: with more behind the lengths told %v, want %v", h, got, want)
		}
		if now := fmt.Sprint(lent, whole, rows); now != was {
			t.Errorf("lists were %s, are %s", was, now)
		}
	}
}

// lists gives all lists of an answer, and what stands behind their lengths.
func (a answer) lists() [][]int {
	all := slices.Concat([][]int{a.mark, a.turn, a.left, a.heap.Roots}, a.outs, a.heap.Outs)
	for i, list := range all {
		all[i] = list[:cap(list)]
	}
	return all
}

// Whatever is written into a list of an answer, no other one has it, nor has the heap, nor a later answer.
func TestAnswersAreFresh(t *testing.T) {
	for _, h := range asked() {
		was, want := fmt.Sprint(h), expected(h)
		got := told(h)
		for i, list := range got.lists() {
			for at := range list {
				list[at] = -100 - i
			}
		}
		for i, list := range got.lists() {
			for _, number := range list {
				if number != -100-i {
					t.Fatalf("%v: list %d has %v, which was written into another one", h, i, list)
				}
			}
		}
		for _, rows := range [][][]int{got.outs, got.heap.Outs} {
			clear(rows[:cap(rows)])
		}
		if now := fmt.Sprint(h); now != was {
			t.Errorf("the heap was %s, is %s", was, now)
		}
		if again := told(h); !again.is(want) {
			t.Errorf("%v: told %v, want %v", h, again, want)
		}
	}
}

// The two lists of lists that are told of one heap are two, though nothing is swept.
func TestRowsAreFresh(t *testing.T) {
	h := api.Heap{Outs: ring(4), Roots: to(0)}
	got := told(h)
	clear(got.outs)
	if !sameRows(got.heap.Outs, ring(4)) || !sameRows(h.Outs, ring(4)) {
		t.Errorf("what is left is %v, the heap %v", got.heap, h)
	}
	clear(got.heap.Outs)
	if !sameRows(h.Outs, ring(4)) {
		t.Errorf("the heap is %v", h)
	}
}

// What was told once is told again, whatever was asked between, and whatever is written into the lists then; and it stays as it was told.
func TestNothingIsKeptBetweenCalls(t *testing.T) {
	for i, h := range asked() {
		want, early := expected(h), told(h)
		for _, other := range asked() {
			told(other)
			for _, outs := range other.Outs {
				for i := range outs {
					outs[i] = -7
				}
			}
			clear(other.Outs)
			clear(other.Roots)
			if got := told(h); !got.is(want) || !early.is(want) {
				t.Errorf("%v: behind %v told %v, was told %v, want %v", h, other, got, early, want)
			}
		}
		clear(h.Roots)
		for _, outs := range h.Outs {
			clear(outs)
		}
		clear(h.Outs)
		if same := expected(asked()[i]); !early.is(same) {
			t.Errorf("was told %v, is %v, with the heap emptied", same, early)
		}
	}
}

// Nodes may share one list of pointers, and roots may be one of them; what comes out shares none.
func TestListsMayBeShared(t *testing.T) {
	list := to(1, 2)
	h := api.Heap{Outs: [][]int{list, list, list, list[1:]}, Roots: list[:1]}
	want := answered(h, to(1, 2), to(1, 2), same(2, 0, 1), to(0))
	got := told(h)
	if !got.is(want) {
		t.Errorf("told %v, want %v", got, want)
	}
	got.outs[0][0], got.heap.Outs[0][0] = 9, 9
	if !slices.Equal(list, to(1, 2)) || !slices.Equal(got.outs[1], to(1, 2)) || !slices.Equal(got.heap.Outs[1], to(0, 1)) {
		t.Errorf("the list is %v, pointers are %v, what is left is %v", list, got.outs, got.heap)
	}
}
