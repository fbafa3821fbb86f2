package graph_test

import (
	"fmt"
	"math"
	"slices"
	"testing"

	"larderwick/api"
	"larderwick/graph"
	"larderwick/plain"
)

// to gives the pointers of a node.
func to(nodes ...int) []int { return nodes }

// set gives the set of some nodes.
func set(nodes ...int) int {
	worth := 0
	for _, node := range nodes {
		if worth/power(node)%2 == 0 {
			worth += power(node)
		}
	}
	return worth
}

// power gives 2 to a power.
func power(of int) int {
	worth := 1
	for range of {
		worth *= 2
	}
	return worth
}

// upTo gives the numbers below a bound, rising.
func upTo(bound int) []int {
	list := make([]int, bound)
	for i := range list {
		list[i] = i
	}
	return list
}

// bare gives so many nodes that point to nothing.
func bare(many int) [][]int { return make([][]int, many) }

// same gives so many nodes, each with the same pointers.
func same(many int, outs ...int) [][]int { return slices.Repeat([][]int{outs}, many) }

// row gives so many nodes, each of which points to the one behind it.
func row(many int) [][]int {
	outs := bare(many)
	for i := range many - 1 {
		outs[i] = to(i + 1)
	}
	return outs
}

// turned gives so many nodes, each of which points to the one ahead of it.
func turned(many int) [][]int {
	outs := bare(many)
	for i := 1; i < many; i++ {
		outs[i] = to(i - 1)
	}
	return outs
}

// ring gives a row whose last node points to the first.
func ring(many int) [][]int {
	return with(row(many), many-1, 0)
}

// with gives a copy of the pointers of nodes in which one node has others.
func with(outs [][]int, node int, others ...int) [][]int {
	changed := slices.Clone(outs)
	changed[node] = others
	return changed
}

func TestReachAndRounds(t *testing.T) {
	all := set(upTo(api.MaxNodes)...)
	cases := []struct {
		name          string
		outs          [][]int
		roots         []int
		reach, rounds int
	}{
		{"nil, no node", nil, nil, 0, 0},
		{"empty, no node", [][]int{}, []int{}, 0, 0},
		{"one node, no root", bare(1), nil, 0, 0},
		{"one node, and a root", bare(1), to(0), 1, 0},
		{"pointers that are nil, or empty", [][]int{nil, {}}, to(0, 1), set(0, 1), 0},
		{"one node, that points to itself", same(1, 0), to(0), 1, 1},
		{"one node, that points to itself, no root", same(1, 0), nil, 0, 1},
		{"one node, as many pointers and roots as may be", same(1, 0, 0, 0, 0), make([]int, api.MaxNodes), 1, 1},
		{"a root is there, though it points to nothing", bare(4), to(2), set(2), 0},
		{"roots not rising", bare(4), to(3, 0), set(0, 3), 0},
		{"roots twice", bare(4), to(3, 1, 3, 1), set(1, 3), 0},
		{"all nodes are roots", bare(api.MaxNodes), upTo(api.MaxNodes), all, 0},
		{"the last node alone", bare(api.MaxNodes), to(api.MaxNodes - 1), 2_048, 0},
		{"along a row", row(5), to(0), set(0, 1, 2, 3, 4), 0},
		{"along a row, from its middle on", row(5), to(2), set(2, 3, 4), 0},
		{"along a row, from its end on", row(5), to(4), set(4), 0},
		{"along the longest row", row(api.MaxNodes), to(0), all, 0},
		{"along the longest row, numbered from its end on", turned(api.MaxNodes), to(api.MaxNodes - 1), all, 0},
		{"a row that jumps about", [][]int{to(3), to(4), nil, to(1), to(2)}, to(0), set(0, 1, 2, 3, 4), 0},
		{"two roots on two rows", with(row(6), 2), to(4, 1), set(1, 2, 4, 5), 0},
		{"a ring of two", ring(2), to(1), set(0, 1), set(0, 1)},
		{"a ring of three, no root", ring(3), nil, 0, set(0, 1, 2)},
		{"the longest ring", ring(api.MaxNodes), to(7), all, all},
		{"the longest ring, and no root", ring(api.MaxNodes), nil, 0, all},
		{"into a ring", with(row(5), 4, 2), to(0), set(0, 1, 2, 3, 4), set(2, 3, 4)},
		{"out of a ring", with(row(5), 1, 0, 2), to(0), set(0, 1, 2, 3, 4), set(0, 1)},
		{"out of a ring, from behind it", with(row(5), 1, 0, 2), to(2), set(2, 3, 4), set(0, 1)},
		{"between two rings, on none", [][]int{to(1), to(0, 2), to(3), to(4), to(3)}, to(0), set(0, 1, 2, 3, 4), set(0, 1, 3, 4)},
		{"two rings that share a node", [][]int{to(1), to(2), to(0, 3), to(4), to(2)}, to(4), set(0, 1, 2, 3, 4), set(0, 1, 2, 3, 4)},
		{"two rings, one of them is come to", [][]int{to(1), to(0), to(3), to(2)}, to(3), set(2, 3), set(0, 1, 2, 3)},
		{"two ways to one node are no ring", [][]int{to(1, 2), to(3), to(3), nil}, to(0), set(0, 1, 2, 3), 0},
		{"the same pointer twice is no ring", [][]int{to(1, 1), nil}, to(0), set(0, 1), 0},
		{"roots that point to a node make no ring", bare(2), to(1, 1), set(1), 0},
		{"the last pointer counts", [][]int{to(0, 0, 0, 3), nil, nil, to(1)}, to(0), set(0, 1, 3), set(0)},
		{"the first pointer counts", [][]int{to(3, 0, 0, 0), nil, nil, to(1)}, to(0), set(0, 1, 3), set(0)},
		{"who points to a node is not come to from it", [][]int{nil, to(0), to(0, 1)}, to(0), set(0), 0},
		{"all point to the first", same(5, 0), to(4), set(0, 4), set(0)},
		{"all point to the last", same(5, 4), to(0), set(0, 4), set(4)},
		{"all point to four", same(api.MaxNodes, 3, 11, 0, 8), to(5), set(0, 3, 5, 8, 11), set(0, 3, 8, 11)},
	}
	for _, c := range cases {
		t.Run(c.name, func(t *testing.T) {
			h := api.Heap{Outs: c.outs, Roots: c.roots}
			if err := graph.Check(h); err != nil {
				t.Errorf("Check told %v", err)
			}
			if got, err := graph.Reach(h); err != nil || got != c.reach {
				t.Errorf("Reach: got %d %v, want %d", got, err, c.reach)
			}
			if got, err := graph.Rounds(h); err != nil || got != c.rounds {
				t.Errorf("Rounds: got %d %v, want %d", got, err, c.rounds)
			}
		})
	}
}

// told writes what all three calls tell of a heap.
func told(h api.Heap) string {
	reach, e1 := graph.Reach(h)
	rounds, e2 := graph.Rounds(h)
	return fmt.Sprint(plain.Told(graph.Check(h)), ", ", reach, " ", plain.Told(e1), ", ", rounds, " ", plain.Told(e2))
}

// refused writes what all three calls tell of a heap that has a fault.
func refused(fault api.Errno) string {
	return fmt.Sprintf("%v, 0 %[1]v, 0 %[1]v", fault)
}

func TestFaults(t *testing.T) {
	full := ring(api.MaxNodes)
	over := ring(api.MaxNodes + 1)
	roots := upTo(api.MaxNodes)
	more := make([]int, api.MaxNodes+1)
	cases := []struct {
		name  string
		outs  [][]int
		roots []int
		want  api.Errno
	}{
		{"a node more than MaxNodes", over, to(0), api.ErrFull},
		{"a node more, no root, no pointer", bare(api.MaxNodes + 1), nil, api.ErrFull},
		{"far too many nodes", bare(1_000), to(0), api.ErrFull},
		{"a root more than MaxNodes", full, more, api.ErrFull},
		{"a root more, though there is one node", bare(1), more, api.ErrFull},
		{"far too many roots", full, make([]int, 1_000), api.ErrFull},
		{"too many of both", over, more, api.ErrFull},
		{"a root is the number of nodes", bare(3), to(3), api.ErrRange},
		{"a root is MaxNodes, of MaxNodes nodes", full, to(api.MaxNodes), api.ErrRange},
		{"a root is below MaxNodes, of fewer nodes", bare(3), to(11), api.ErrRange},
		{"a root of no nodes", nil, to(0), api.ErrRange},
		{"a root below 0", full, to(-1), api.ErrRange},
		{"a root at the first number", full, to(math.MinInt), api.ErrRange},
		{"a root at the last number", full, to(math.MaxInt), api.ErrRange},
		{"a root above all bits", full, to(64), api.ErrRange},
		{"only the first root is none", full, append(to(-1), roots[1:]...), api.ErrRange},
		{"only the last root is none", full, append(upTo(api.MaxNodes-1), 12), api.ErrRange},
		{"a pointer more than MaxOuts", [][]int{to(0, 0, 0, 0, 0)}, to(0), api.ErrFull},
		{"a pointer more, of the last node alone", with(full, 11, 0, 1, 2, 3, 4), to(0), api.ErrFull},
		{"a pointer more, of a node that can't be come to", with(bare(3), 1, 0, 1, 2, 0, 1), to(0), api.ErrFull},
		{"far too many pointers", with(full, 4, make([]int, 1_000)...), to(0), api.ErrFull},
		{"a pointer is the number of nodes", [][]int{to(1), to(2)}, to(0), api.ErrRange},
		{"a pointer is MaxNodes, of MaxNodes nodes", with(full, 0, api.MaxNodes), to(0), api.ErrRange},
		{"a pointer is below MaxNodes, of fewer nodes", with(bare(3), 2, 11), to(0), api.ErrRange},
		{"a pointer below 0", with(full, 0, -1), to(0), api.ErrRange},
		{"a pointer at the first number", with(full, 0, math.MinInt), to(0), api.ErrRange},
		{"a pointer at the last number", with(full, 0, math.MaxInt), to(0), api.ErrRange},
		{"a pointer above all bits", with(full, 0, 64), to(0), api.ErrRange},
		{"only the first pointer of the first node is none", with(full, 0, -1, 1, 2, 3), to(0), api.ErrRange},
		{"only the last pointer of the last node is none", with(full, 11, 0, 1, 2, 12), to(0), api.ErrRange},
		{"a pointer that is none, no root", [][]int{nil, to(2)}, nil, api.ErrRange},
		{"a pointer that is none, of a node that can't be come to", [][]int{nil, to(2)}, to(0), api.ErrRange},
		{"too many nodes ahead of a root that is none", over, to(-1), api.ErrFull},
		{"too many nodes ahead of a pointer that is none", with(over, 0, -1), to(0), api.ErrFull},
		{"too many roots ahead of a root that is none", full, append(to(-1), roots...), api.ErrFull},
		{"too many roots ahead of a root of no nodes", nil, more, api.ErrFull},
		{"too many roots ahead of a pointer that is none", with(full, 0, -1), more, api.ErrFull},
		{"a root that is none ahead of too many pointers", with(full, 0, 0, 0, 0, 0, 0), to(0, 12), api.ErrRange},
		{"too many pointers ahead of one that is none", with(full, 3, -1, 0, 0, 0, 0), to(0), api.ErrFull},
		{"too many pointers, the last of which is none", with(full, 3, 0, 0, 0, 0, 12), to(0), api.ErrFull},
		{"a pointer that is none ahead of too many of a later node", with(with(full, 3, 0, 12), 4, 0, 0, 0, 0, 0), to(0), api.ErrRange},
		{"too many pointers ahead of one that is none of a later node", with(with(full, 3, 0, 0, 0, 0, 0), 4, 12), to(0), api.ErrFull},
		{"a pointer that is none ahead of too many of the last node", with(with(full, 0, -1), 11, 0, 0, 0, 0, 0), to(0), api.ErrRange},
		{"too many pointers ahead of one that is none of the last node", with(with(full, 0, 0, 0, 0, 0, 0), 11, -1), to(0), api.ErrFull},
	}
	for _, c := range cases {
		t.Run(c.name, func(t *testing.T) {
			h := api.Heap{Outs: c.outs, Roots: c.roots}
			want := refused(c.want)
			for range 2 {
				if got := told(h); got != want {
					t.Errorf("told %s, want %s", got, want)
				}
			}
		})
	}
}

// faults gives all that is wrong with a heap, in the order in which it is to be told.
func faults(h api.Heap) []api.Errno {
	var list []api.Errno
	wrong := func(is bool, fault api.Errno) {
		if is {
			list = append(list, fault)
		}
	}
	all := upTo(len(h.Outs))
	wrong(len(h.Outs) >= 13, api.ErrFull)
	wrong(len(h.Roots) >= 13, api.ErrFull)
	for _, root := range h.Roots {
		wrong(!slices.Contains(all, root), api.ErrRange)
	}
	for _, outs := range h.Outs {
		wrong(len(outs) >= 5, api.ErrFull)
		for _, node := range outs {
			wrong(!slices.Contains(all, node), api.ErrRange)
		}
	}
	return list
}

// ways tells from which node along one pointer or more one comes to which: first of ways that lead past no node, then of those that lead past the first one at most, and so on.
func ways(outs [][]int) (table [api.MaxNodes][api.MaxNodes]bool) {
	for from, nodes := range outs {
		for _, node := range nodes {
			table[from][node] = true
		}
	}
	for past := range table {
		for from := range table {
			for till := range table {
				if table[from][past] && table[past][till] {
					table[from][till] = true
				}
			}
		}
	}
	return table
}

// byWays tells what all three calls are to tell of a heap.
func byWays(h api.Heap) string {
	if list := faults(h); len(list) > 0 {
		return refused(list[0])
	}
	table := ways(h.Outs)
	reach, rounds := slices.Clone(h.Roots), []int(nil)
	for node := range h.Outs {
		for _, root := range h.Roots {
			if table[root][node] {
				reach = append(reach, node)
			}
		}
		if table[node][node] {
			rounds = append(rounds, node)
		}
	}
	return fmt.Sprintf("OK, %d OK, %d OK", set(reach...), set(rounds...))
}

// compare holds what is told of a heap against what is to be told.
func compare(t *testing.T, h api.Heap) {
	t.Helper()
	if got, want := told(h), byWays(h); got != want {
		t.Fatalf("%v: told %s, want %s", h, got, want)
	}
}

// listsOf gives all lists of up to so many of some numbers.
func listsOf(most int, numbers []int) [][]int {
	all := [][]int{nil}
	for from := 0; most > 0; most-- {
		till := len(all)
		for ; from < till; from++ {
			for _, number := range numbers {
				all = append(all, append(slices.Clone(all[from]), number))
			}
		}
	}
	return all
}

// someOf gives all lists of some numbers below a bound, rising, each once.
func someOf(bound int) [][]int {
	all := [][]int{nil}
	for number := range bound {
		for _, list := range all[:len(all):len(all)] {
			all = append(all, append(slices.Clone(list), number))
		}
	}
	return all
}

// eachHeap asks for all heaps of so many nodes whose roots and pointers are any of some lists.
func eachHeap(nodes int, roots, pointers [][]int, ask func(api.Heap)) {
	outs := bare(nodes)
	var fill func(node int)
	fill = func(node int) {
		if node < nodes {
			for _, outs[node] = range pointers {
				fill(node + 1)
			}
			return
		}
		for _, list := range roots {
			ask(api.Heap{Outs: outs, Roots: list})
		}
	}
	fill(0)
}

// All heaps of up to four nodes, as far as they differ in who points to whom.
func TestAllSmall(t *testing.T) {
	for nodes := range 5 {
		lists := someOf(nodes)
		eachHeap(nodes, lists, lists, func(h api.Heap) { compare(t, h) })
	}
}

// All heaps of three nodes and few pointers, in any order and more than once.
func TestAllOrders(t *testing.T) {
	lists := listsOf(2, upTo(3))
	eachHeap(3, lists, lists, func(h api.Heap) { compare(t, h) })
}

// All heaps of up to three nodes with numbers that may be none, and numbers of pointers that may be too many.
func TestAllFaults(t *testing.T) {
	for nodes := range 4 {
		numbers := to(-1, 0, nodes)
		roots := append(listsOf(2, numbers), make([]int, api.MaxNodes), make([]int, api.MaxNodes+1))
		pointers := append(listsOf(1, numbers), to(0, 0, 0, 0), to(0, 0, 0, 0, 0), to(0, 0, 0, -1), to(0, nodes, 0, 0, 0))
		eachHeap(nodes, roots, pointers, func(h api.Heap) { compare(t, h) })
	}
}

// scattered gives a source of numbers that jump about below a bound, the same ones for the same seed.
func scattered(seed int) func(below int) int {
	state := uint64(seed) + 1
	return func(below int) int {
		state = state*6364136223846793005 + 1442695040888963407
		return int(state >> 33 % uint64(below))
	}
}

// some gives up to so many scattered numbers below a bound.
func some(next func(below int) int, most, below int) []int {
	list := make([]int, next(most+1))
	for i := range list {
		list[i] = next(below)
	}
	return list
}

// great gives a heap of several nodes; of some seeds there are few pointers, so that ways are long.
func great(seed int) api.Heap {
	next := scattered(seed)
	outs := bare(5 + next(api.MaxNodes-4))
	for node := range outs {
		outs[node] = some(next, 1+seed%api.MaxOuts, len(outs))
	}
	return api.Heap{Outs: outs, Roots: some(next, 1+next(api.MaxNodes), len(outs))}
}

func TestGreat(t *testing.T) {
	for seed := range 20_000 {
		compare(t, great(seed))
	}
}

// Heaps as great, with one number or one list among them spoilt.
func TestGreatFaults(t *testing.T) {
	wrong := []int{-1, 12, 13, 63, 64, math.MinInt, math.MaxInt, 1 << 32, -1 << 32}
	for seed := range 20_000 {
		h, next := great(seed), scattered(seed+1_000_000)
		for range 1 + next(3) {
			node := next(len(h.Outs))
			switch next(4) {
			case 0:
				h.Roots = append(h.Roots, wrong[next(len(wrong))])
			case 1:
				h.Outs[node] = append(h.Outs[node], wrong[next(len(wrong))])
			case 2:
				h.Outs[node] = append(h.Outs[node], 0)
			case 3:
				h.Roots = append(h.Roots, node)
			}
		}
		compare(t, h)
	}
}

// both tells Reach and Rounds of a heap without faults.
func both(t *testing.T, h api.Heap) (reach, rounds int) {
	t.Helper()
	reach, e1 := graph.Reach(h)
	rounds, e2 := graph.Rounds(h)
	if e1 != nil || e2 != nil {
		t.Fatalf("%v: told %v, %v", h, e1, e2)
	}
	return reach, rounds
}

// A root more takes nothing away, and changes no ring; what all roots together come to is what each comes to.
func TestRootByRoot(t *testing.T) {
	for seed := range 2_000 {
		h := great(seed)
		want, rounds := both(t, h)
		sum := 0
		for _, root := range h.Roots {
			reach, alone := both(t, api.Heap{Outs: h.Outs, Roots: to(root)})
			sum |= reach
			if alone != rounds {
				t.Fatalf("%v: with root %d alone rounds are %b, want %b", h, root, alone, rounds)
			}
		}
		if sum != want {
			t.Fatalf("%v: one by one roots come to %b, together to %b", h, sum, want)
		}
	}
}

// A node is on a ring just where one of those that it points to comes to it.
func TestRoundsGoByReach(t *testing.T) {
	for seed := range 2_000 {
		h := great(seed)
		_, rounds := both(t, h)
		for node, outs := range h.Outs {
			reach, _ := both(t, api.Heap{Outs: h.Outs, Roots: outs})
			if reach>>node&1 != rounds>>node&1 {
				t.Fatalf("%v: node %d: its pointers come to %b, rounds are %b", h, node, reach, rounds)
			}
		}
	}
}

// Which number a node has is no matter, nor is the order of pointers and roots.
func TestNumbersAreNoMatter(t *testing.T) {
	for seed := range 2_000 {
		h := great(seed)
		last := len(h.Outs) - 1
		other := func(list []int) []int {
			var turned []int
			for _, node := range slices.Backward(list) {
				turned = append(turned, last-node)
			}
			return turned
		}
		var from api.Heap
		for _, outs := range slices.Backward(h.Outs) {
			from.Outs = append(from.Outs, other(outs))
		}
		from.Roots = other(h.Roots)
		reach, rounds := both(t, h)
		reachFrom, roundsFrom := both(t, from)
		for node := range h.Outs {
			if reach>>node&1 != reachFrom>>(last-node)&1 || rounds>>node&1 != roundsFrom>>(last-node)&1 {
				t.Fatalf("%v: got %b %b, numbered from the end on %b %b", h, reach, rounds, reachFrom, roundsFrom)
			}
		}
	}
}

// behind gives a list in whose memory more stands behind its length, and all of that memory.
func behind(list []int) (short, whole []int) {
	whole = append(slices.Clone(list), 1, -5, 99)
	return whole[:len(list)], whole
}

// asked are heaps of all kinds, those that are refused too.
func asked() []api.Heap {
	return []api.Heap{
		{},
		{Outs: bare(2), Roots: to(1)},
		{Outs: [][]int{to(2, 1), to(0), to(2), nil}, Roots: to(1, 3, 1)},
		{Outs: ring(api.MaxNodes), Roots: upTo(api.MaxNodes)},
		{Outs: ring(api.MaxNodes + 1), Roots: to(0)},
		{Outs: bare(2), Roots: make([]int, api.MaxNodes+1)},
		{Outs: bare(2), Roots: to(0, 2)},
		{Outs: same(2, 0, 1, 0, 1, 0), Roots: to(1)},
		{Outs: [][]int{to(1), to(0, -1)}, Roots: to(1)},
	}
}

func TestListsAreLeftAlone(t *testing.T) {
	for _, h := range asked() {
		want := told(h)
		var lent api.Heap
		var whole [][]int
		for _, outs := range h.Outs {
			short, all := behind(outs)
			lent.Outs, whole = append(lent.Outs, short), append(whole, all)
		}
		short, all := behind(h.Roots)
		lent.Roots, whole = short, append(whole, all)
		rows := append(slices.Clone(lent.Outs), to(0, 0, 0, 0, 0), to(-1))
		lent.Outs = rows[:len(h.Outs)]
		was := fmt.Sprint(lent, whole, rows)
		if got := told(lent); got != want {
			t.Errorf("%v: with more behind the lengths told %s, want %s", h, got, want)
		}
		if now := fmt.Sprint(lent, whole, rows); now != was {
			t.Errorf("lists were %s, are %s", was, now)
		}
	}
}

// What was told once is told again, whatever was asked between, and whatever is written into the lists then.
func TestNothingIsKeptBetweenCalls(t *testing.T) {
	for _, h := range asked() {
		want := told(h)
		for _, other := range asked() {
			told(other)
			for _, outs := range other.Outs {
				for i := range outs {
					outs[i] = -7
				}
			}
			clear(other.Outs)
			clear(other.Roots)
			if got := told(h); got != want {
				t.Errorf("%v: behind %v told %s, want %s", h, other, got, want)
			}
		}
	}
}

// Nodes may share one list of pointers, and roots may be one of them.
func TestListsMayBeShared(t *testing.T) {
	list := to(1, 2)
	h := api.Heap{Outs: [][]int{list, list, list, list[1:]}, Roots: list[:1]}
	if got, want := told(h), "OK, 6 OK, 6 OK"; got != want {
		t.Errorf("told %s, want %s", got, want)
	}
	if !slices.Equal(list, to(1, 2)) {
		t.Errorf("the list is %v", list)
	}
}
