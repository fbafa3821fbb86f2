package counts_test

import (
	"fmt"
	"math"
	"slices"
	"strings"
	"testing"

	"larderwick/api"
	"larderwick/counts"
	"larderwick/graph"
	"larderwick/plain"
)

type kind int

const (
	making kind = iota
	rooting
	dropping
	linking
	cutting
)

func (k kind) String() string {
	return []string{"make", "root", "drop", "link", "cut"}[k]
}

// step makes a node, gives one a root more, drops one of its roots, links it to another one, or cuts it off from that.
type step struct {
	kind     kind
	node, to int
}

var makeOne = step{kind: making}

func root(node int) step { return step{rooting, node, 0} }

func drop(node int) step { return step{dropping, node, 0} }

func link(node, to int) step { return step{linking, node, to} }

func cut(node, to int) step { return step{cutting, node, to} }

// makes makes so many nodes, and goes some steps behind that.
func makes(many int, later ...step) []step {
	return append(times(many, makeOne), later...)
}

// times goes one step so often.
func times(many int, s step) []step { return slices.Repeat([]step{s}, many) }

// each goes a step with each node below a bound.
func each(bound int, one func(node int) step) []step {
	var steps []step
	for node := range bound {
		steps = append(steps, one(node))
	}
	return steps
}

// pairs goes a step with any two nodes below a bound.
func pairs(bound int, one func(node, to int) step) []step {
	var steps []step
	for node := range bound {
		steps = append(steps, each(bound, func(to int) step { return one(node, to) })...)
	}
	return steps
}

// row links so many nodes, each to the one behind it.
func row(many int) []step {
	return each(many-1, func(node int) step { return link(node, node+1) })
}

// ring links so many nodes, each to the one behind it, and the last one to the first.
func ring(many int) []step { return append(row(many), link(many-1, 0)) }

// taker is whatever counts how often its nodes are pointed to.
type taker interface {
	Make() (int, error)
	Root(i int) error
	Drop(i int) error
	Link(i, j int) error
	Cut(i, j int) error
	Count(i int) int
	Here() int
	Heap() api.Heap
}

// done goes a step: what is answered.
func done(h taker, s step) (int, error) {
	switch s.kind {
	case making:
		return h.Make()
	case rooting:
		return 0, h.Root(s.node)
	case dropping:
		return 0, h.Drop(s.node)
	case linking:
		return 0, h.Link(s.node, s.to)
	}
	return 0, h.Cut(s.node, s.to)
}

// take goes a step, and writes what is told.
func take(h taker, s step) string {
	node, err := done(h, s)
	return fmt.Sprint(node, " ", plain.Told(err))
}

// all goes one step behind the other, and writes what is told.
func all(h taker, steps []step) string {
	var told []string
	for _, s := range steps {
		told = append(told, take(h, s))
	}
	return strings.Join(told, ", ")
}

// again gives a new heap that went some steps.
func again(steps []step) *counts.Heap {
	h := counts.New()
	all(h, steps)
	return h
}

// stands writes which nodes are here, as bits, the counts of all that were made, what they point to, and the roots.
func stands(h taker) string {
	heap := h.Heap()
	var many []int
	for node := range heap.Outs {
		many = append(many, h.Count(node))
	}
	return fmt.Sprintf("%b %v %v %v", h.Here(), many, heap.Outs, heap.Roots)
}

const fresh = "0 [] [] []"

// wrong numbers are no node, however many there are.
var wrong = []int{-1, -2, -63, -64, 12, 13, 63, 64, 65, 128, math.MinInt, math.MaxInt, 1 << 32, -1 << 32, 1 << 62}

func TestNew(t *testing.T) {
	if got := stands(counts.New()); got != fresh {
		t.Errorf("stands %s, want %s", got, fresh)
	}
}

func TestMake(t *testing.T) {
	cases := []struct {
		name        string
		steps       []step
		told, after string
	}{
		{"one node", makes(1), "0 OK", "1 [1] [[]] [0]"},
		{"three", makes(3), "0 OK, 1 OK, 2 OK", "111 [1 1 1] [[] [] []] [0 1 2]"},
		{"behind all roots", makes(2, root(0), makeOne), "0 OK, 1 OK, 0 OK, 2 OK", "111 [2 1 1] [[] [] []] [0 1 0 2]"},
		{"nobody points to it but its root", makes(1, link(0, 0), makeOne), "0 OK, 0 OK, 1 OK", "11 [2 1] [[0] []] [0 1]"},
		{"the number of one that is gone is not taken again", makes(1, drop(0), makeOne), "0 OK, 0 OK, 1 OK", "10 [0 1] [[] []] [1]"},
		{"all are gone, but for the last", makes(2, drop(1), drop(0), makeOne), "0 OK, 1 OK, 0 OK, 0 OK, 2 OK", "100 [0 0 1] [[] [] []] [2]"},
		{"where one was refused, its number is the next one's", makes(1, append(times(12, root(0)), makeOne, drop(0), makeOne)...), "0 OK" + strings.Repeat(", 0 OK", 11) + ", 0 ErrFull, 0 ErrFull, 0 OK, 1 OK", "11 [11 1] [[] []] [0 0 0 0 0 0 0 0 0 0 0 1]"},
		{"as many as may be", makes(12), "0 OK, 1 OK, 2 OK, 3 OK, 4 OK, 5 OK, 6 OK, 7 OK, 8 OK, 9 OK, 10 OK, 11 OK", "111111111111 [1 1 1 1 1 1 1 1 1 1 1 1] [[] [] [] [] [] [] [] [] [] [] [] []] [0 1 2 3 4 5 6 7 8 9 10 11]"},
	}
	for _, c := range cases {
		t.Run(c.name, func(t *testing.T) {
			h := counts.New()
			if got := all(h, c.steps); got != c.told {
				t.Errorf("told %s, want %s", got, c.told)
			}
			if got := stands(h); got != c.after {
				t.Errorf("stands %s, want %s", got, c.after)
			}
		})
	}
}

// played are steps behind making so many nodes; none of them is refused.
type played struct {
	name  string
	made  int
	steps []step
	after string
}

func play(t *testing.T, cases []played) {
	for _, c := range cases {
		t.Run(c.name, func(t *testing.T) {
			h := again(makes(c.made))
			for _, s := range c.steps {
				if got := take(h, s); !strings.HasSuffix(got, " OK") {
					t.Errorf("%v told %s", s, got)
				}
			}
			if got := stands(h); got != c.after {
				t.Errorf("stands %s, want %s", got, c.after)
			}
		})
	}
}

func TestRootAndDrop(t *testing.T) {
	play(t, []played{
		{"a root more", 1, []step{root(0)}, "1 [2] [[]] [0 0]"},
		{"a root more, behind all", 3, []step{root(1)}, "111 [1 2 1] [[] [] []] [0 1 2 1]"},
		{"as many roots as may be", 1, times(11, root(0)), "1 [12] [[]] [0 0 0 0 0 0 0 0 0 0 0 0]"},
		{"as many roots as may be, of the last node", 11, []step{root(10)}, "11111111111 [1 1 1 1 1 1 1 1 1 1 2] [[] [] [] [] [] [] [] [] [] [] []] [0 1 2 3 4 5 6 7 8 9 10 10]"},
		{"a root of what is pointed to alone", 2, []step{link(0, 1), drop(1), root(1)}, "11 [1 2] [[1] []] [0 1]"},
		{"a root of a ring that has none", 2, append(ring(2), drop(0), drop(1), root(1)), "11 [1 2] [[1] [0]] [1]"},
		{"the only root: the node is gone", 1, []step{drop(0)}, "0 [0] [[]] []"},
		{"one of two nodes", 2, []step{drop(0)}, "10 [0 1] [[] []] [1]"},
		{"the other of two nodes", 2, []step{drop(1)}, "1 [1 0] [[] []] [0]"},
		{"one of two roots: the node stays", 1, []step{root(0), drop(0)}, "1 [1] [[]] [0]"},
		{"both of two roots", 1, []step{root(0), drop(0), drop(0)}, "0 [0] [[]] []"},
		{"the first root, not the last", 3, []step{root(0), root(1), drop(0)}, "111 [1 2 1] [[] [] []] [1 2 0 1]"},
		{"the first root between others", 3, []step{root(1), drop(1)}, "111 [1 1 1] [[] [] []] [0 2 1]"},
		{"the first root, again and again", 2, []step{root(0), root(1), root(0), drop(0), drop(0)}, "11 [1 2] [[] []] [1 1 0]"},
		{"all roots, from the last node on", 3, []step{drop(2), drop(1), drop(0)}, "0 [0 0 0] [[] [] []] []"},
		{"pointed to: the node stays", 2, []step{link(0, 1), drop(1)}, "11 [1 1] [[1] []] [0]"},
		{"pointed to by itself: the node stays", 1, []step{link(0, 0), drop(0)}, "1 [1] [[0]] []"},
		{"a root is free again", 12, []step{drop(4), root(7)}, "111111101111 [1 1 1 1 0 1 1 2 1 1 1 1] [[] [] [] [] [] [] [] [] [] [] [] []] [0 1 2 3 5 6 7 8 9 10 11 7]"},
	})
}

func TestLinkAndCut(t *testing.T) {
	play(t, []played{
		{"a pointer", 2, []step{link(0, 1)}, "11 [1 2] [[1] []] [0 1]"},
		{"to an earlier node", 2, []step{link(1, 0)}, "11 [2 1] [[] [0]] [0 1]"},
		{"to itself", 1, []step{link(0, 0)}, "1 [2] [[0]] [0]"},
		{"the same one twice", 2, []step{link(0, 1), link(0, 1)}, "11 [1 3] [[1 1] []] [0 1]"},
		{"both ways", 2, ring(2), "11 [2 2] [[1] [0]] [0 1]"},
		{"behind all of the node", 4, []step{link(1, 3), link(1, 0), link(2, 0), link(1, 2), link(1, 0)}, "1111 [4 1 2 2] [[] [3 0 2 0] [0] []] [0 1 2 3]"},
		{"as many as may be, of one", 1, times(4, link(0, 0)), "1 [5] [[0 0 0 0]] [0]"},
		{"as many as may be, of two", 2, append(times(4, link(0, 1)), times(4, link(1, 1))...), "11 [1 9] [[1 1 1 1] [1 1 1 1]] [0 1]"},
		{"from one without a root", 3, []step{link(0, 1), drop(1), link(1, 2)}, "111 [1 1 2] [[1] [2] []] [0 2]"},
		{"to one without a root", 2, []step{link(0, 1), drop(1), link(0, 1)}, "11 [1 2] [[1 1] []] [0]"},
		{"from a ring that has no root", 2, []step{link(0, 0), drop(0), link(0, 1)}, "11 [1 2] [[0 1] []] [1]"},
		{"cut", 2, []step{link(0, 1), cut(0, 1)}, "11 [1 1] [[] []] [0 1]"},
		{"cut off from itself", 1, []step{link(0, 0), cut(0, 0)}, "1 [1] [[]] [0]"},
		{"cut once, of twice", 2, []step{link(0, 1), link(0, 1), cut(0, 1)}, "11 [1 2] [[1] []] [0 1]"},
		{"the first pointer, not the last", 3, []step{link(0, 1), link(0, 2), link(0, 1), cut(0, 1)}, "111 [1 2 2] [[2 1] [] []] [0 1 2]"},
		{"the first pointer between others", 3, []step{link(0, 2), link(0, 1), link(0, 0), link(0, 1), cut(0, 1)}, "111 [2 2 2] [[2 0 1] [] []] [0 1 2]"},
		{"the last pointer", 3, []step{link(0, 2), link(0, 0), link(0, 1), cut(0, 1)}, "111 [2 1 2] [[2 0] [] []] [0 1 2]"},
		{"not another node's", 3, []step{link(0, 2), link(1, 2), cut(1, 2)}, "111 [1 1 2] [[2] [] []] [0 1 2]"},
		{"not the other way", 2, append(ring(2), cut(0, 1)), "11 [2 1] [[] [0]] [0 1]"},
		{"a pointer is free again", 2, append(times(4, link(0, 0)), cut(0, 0), link(0, 1)), "11 [4 2] [[0 0 0 1] []] [0 1]"},
		{"cut off from all: the node is gone", 2, []step{link(0, 1), drop(1), cut(0, 1)}, "1 [1 0] [[] []] [0]"},
		{"cut off from one of two: the node stays", 3, []step{link(0, 1), link(2, 1), drop(1), cut(2, 1)}, "111 [1 1 1] [[1] [] []] [0 2]"},
		{"pointed to twice, and cut twice", 2, []step{link(0, 1), link(0, 1), drop(1), cut(0, 1), cut(0, 1)}, "1 [1 0] [[] []] [0]"},
		{"cut off from itself alone: it is gone", 1, []step{link(0, 0), drop(0), cut(0, 0)}, "0 [0] [[]] []"},
		{"cut off from itself once, of twice", 1, []step{link(0, 0), link(0, 0), drop(0), cut(0, 0)}, "1 [1] [[0]] []"},
		{"a root stays that is as good as the pointer", 2, []step{link(0, 1), root(1), drop(1), cut(0, 1), drop(1)}, "1 [1 0] [[] []] [0]"},
	})
}

func TestOthersGo(t *testing.T) {
	dropAll := func(bound int) []step { return each(bound, drop) }
	play(t, []played{
		{"what only one points to that goes", 2, []step{link(0, 1), drop(1), drop(0)}, "0 [0 0] [[] []] []"},
		{"what has a root stays, and is pointed to less", 2, []step{link(0, 1), drop(0)}, "10 [0 1] [[] []] [1]"},
		{"what is pointed to twice by the one that goes", 2, []step{link(0, 1), link(0, 1), drop(1), drop(0)}, "0 [0 0] [[] []] []"},
		{"twice, and has a root", 2, []step{link(0, 1), link(0, 1), drop(0)}, "10 [0 1] [[] []] [1]"},
		{"what another one points to, too, stays", 3, []step{link(0, 2), link(1, 2), drop(2), drop(0)}, "110 [0 1 1] [[] [2] []] [1]"},
		{"and goes with that", 3, []step{link(0, 2), link(1, 2), drop(2), drop(0), drop(1)}, "0 [0 0 0] [[] [] []] []"},
		{"a row, from its beginning on", 4, append(row(4), drop(3), drop(2), drop(1), drop(0)), "0 [0 0 0 0] [[] [] [] []] []"},
		{"the longest row", 12, append(row(12), dropAll(12)[1:]...), "111111111111 [1 1 1 1 1 1 1 1 1 1 1 1] [[1] [2] [3] [4] [5] [6] [7] [8] [9] [10] [11] []] [0]"},
		{"all of the longest row", 12, append(append(row(12), dropAll(12)[1:]...), drop(0)), "0 [0 0 0 0 0 0 0 0 0 0 0 0] [[] [] [] [] [] [] [] [] [] [] [] []] []"},
		{"a row that is cut in its middle", 5, append(row(5), drop(4), drop(3), drop(2), drop(1), cut(1, 2)), "11 [1 1 0 0 0] [[1] [] [] [] []] [0]"},
		{"a row as far as to a root", 5, append(row(5), drop(4), drop(2), drop(1), drop(0)), "11000 [0 0 0 1 1] [[] [] [] [4] []] [3]"},
		{"all that one points to", 5, []step{link(0, 3), link(0, 1), link(0, 4), link(0, 2), drop(1), drop(2), drop(3), drop(4), drop(0)}, "0 [0 0 0 0 0] [[] [] [] [] []] []"},
		{"some of what one points to", 5, []step{link(0, 3), link(0, 1), link(0, 4), link(0, 2), drop(1), drop(3), drop(0)}, "10100 [0 0 1 0 1] [[] [] [] [] []] [2 4]"},
		{"two ways to one, behind both", 4, []step{link(0, 1), link(0, 2), link(1, 3), link(2, 3), drop(1), drop(2), drop(3), drop(0)}, "0 [0 0 0 0] [[] [] [] []] []"},
		{"a long way and a short one to one", 4, []step{link(0, 3), link(0, 1), link(1, 2), link(2, 3), drop(1), drop(2), drop(3), drop(0)}, "0 [0 0 0 0] [[] [] [] []] []"},
		{"what goes has its pointers no more, though it had roots", 3, []step{link(1, 2), link(1, 0), link(1, 2), drop(1)}, "101 [1 0 1] [[] [] []] [0 2]"},
		{"a ring stays, though no root points to it", 3, append(ring(3), dropAll(3)...), "111 [1 1 1] [[1] [2] [0]] []"},
		{"a ring that is cut is gone, all of it", 3, append(ring(3), append(dropAll(3), cut(1, 2))...), "0 [0 0 0] [[] [] []] []"},
		{"a ring of two that is cut", 2, append(ring(2), drop(0), drop(1), cut(1, 0)), "0 [0 0] [[] []] []"},
		{"the longest ring", 12, append(ring(12), dropAll(12)...), "111111111111 [1 1 1 1 1 1 1 1 1 1 1 1] [[1] [2] [3] [4] [5] [6] [7] [8] [9] [10] [11] [0]] []"},
		{"the longest ring that is cut", 12, append(ring(12), append(dropAll(12), cut(7, 8))...), "0 [0 0 0 0 0 0 0 0 0 0 0 0] [[] [] [] [] [] [] [] [] [] [] [] []] []"},
		{"a ring that is cut stays as far as behind its root", 4, append(ring(4), drop(0), drop(1), drop(3), cut(0, 1)), "1101 [1 0 1 1] [[] [] [3] [0]] [2]"},
		{"what goes points into a ring, which stays", 3, []step{link(0, 1), link(1, 2), link(2, 1), drop(2), drop(1), drop(0)}, "110 [0 1 1] [[] [2] [1]] []"},
		{"a ring that is cut, and what it points to", 4, append(ring(2), link(1, 2), link(2, 3), drop(0), drop(1), drop(2), drop(3), cut(0, 1)), "0 [0 0 0 0] [[] [] [] []] []"},
		{"two rings that share a node, one is cut", 3, []step{link(0, 1), link(1, 0), link(0, 2), link(2, 0), drop(0), drop(1), drop(2), cut(0, 1)}, "101 [1 0 1] [[2] [] [0]] []"},
		{"two rings that share a node, both are cut", 3, []step{link(0, 1), link(1, 0), link(0, 2), link(2, 0), drop(0), drop(1), drop(2), cut(0, 1), cut(2, 0)}, "0 [0 0 0] [[] [] []] []"},
		{"one that points to itself keeps what it points to", 2, []step{link(0, 0), link(0, 1), drop(0), drop(1)}, "11 [1 1] [[0 1] []] []"},
		{"cut off from itself, all goes", 2, []step{link(0, 0), link(0, 1), drop(0), drop(1), cut(0, 0)}, "0 [0 0] [[] []] []"},
		{"what is made later is pointed to by none", 2, []step{link(0, 1), drop(1), drop(0), makeOne}, "100 [0 0 1] [[] [] []] [2]"},
	})
}

// spread gives a number, and wrong ones.
func spread(number ...int) []int { return append(slices.Clone(wrong), number...) }

// asks gives a step with each number.
func asks(numbers []int, one func(number int) step) []step {
	var steps []step
	for _, number := range numbers {
		steps = append(steps, one(number))
	}
	return steps
}

// fullNode makes nodes, the first of which has as many pointers as may be.
func fullNode(many int, later ...step) []step {
	return append(makes(many, times(4, link(0, 0))...), later...)
}

func TestFaults(t *testing.T) {
	from := func(node int) func(to int) []step {
		return func(to int) []step { return []step{link(node, to), cut(node, to)} }
	}
	both := func(numbers []int, node int) []step {
		var steps []step
		for _, number := range numbers {
			steps = append(steps, from(node)(number)...)
			steps = append(steps, from(number)(node)...)
		}
		return steps
	}
	gone := makes(3, link(0, 1), link(1, 2), drop(1), drop(0))
	cases := []struct {
		name  string
		steps []step
		asked []step
		want  api.Errno
	}{
		{"as many nodes as may be", makes(12), times(1, makeOne), api.ErrFull},
		{"as many nodes as may be, of which one is gone", makes(12, drop(5)), times(1, makeOne), api.ErrFull},
		{"as many nodes as may be, and all are gone", append(makes(12), each(12, drop)...), times(1, makeOne), api.ErrFull},
		{"as many nodes as may be, and few roots", append(makes(12, row(12)...), each(12, drop)[1:]...), times(1, makeOne), api.ErrFull},
		{"as many nodes as may be, one by one", slices.Repeat(append(makes(1), each(12, drop)...), 12), times(1, makeOne), api.ErrFull},
		{"as many roots as may be, of one node", makes(1, times(11, root(0))...), []step{makeOne, root(0)}, api.ErrFull},
		{"as many roots as may be, of eleven nodes", makes(11, root(3)), append(each(11, root), makeOne), api.ErrFull},
		{"as many roots as may be, of twelve nodes", makes(12), append(each(12, root), makeOne), api.ErrFull},
		{"as many roots as may be, behind dropping one", makes(11, root(3), drop(4), root(5)), []step{makeOne, root(0), root(10)}, api.ErrFull},
		{"as many roots as may be, and a ring without any", append(makes(1, link(0, 0), makeOne, drop(0)), times(11, root(1))...), []step{makeOne, root(0), root(1)}, api.ErrFull},
		{"a root of no node, at first", nil, asks(spread(0, 1), root), api.ErrRange},
		{"a root of no node", makes(2), asks(spread(2, 3, 11), root), api.ErrRange},
		{"a root of no node, of twelve", append(makes(12), each(12, drop)[6:]...), asks(spread(6, 7, 8, 11), root), api.ErrRange},
		{"a root of one that is gone", gone, asks(spread(0, 1, 3), root), api.ErrRange},
		{"a root of no node, while there are as many as may be: ErrRange is told, not ErrFull", makes(1, times(11, root(0))...), asks(spread(1, 2, 11), root), api.ErrRange},
		{"a root of one that is gone, while there are as many as may be", append(makes(2, drop(1)), times(11, root(0))...), asks(spread(1, 2), root), api.ErrRange},
		{"no node is dropped, at first", nil, asks(spread(0, 1), drop), api.ErrRange},
		{"no node is dropped", makes(2), asks(spread(2, 3, 11), drop), api.ErrRange},
		{"one that is gone is dropped: ErrRange is told, not ErrNone", gone, asks(spread(0, 1, 3), drop), api.ErrRange},
		{"dropped, and pointed to alone", makes(2, link(0, 1), drop(1)), times(1, drop(1)), api.ErrNone},
		{"dropped, and pointed to by itself", makes(1, link(0, 0), drop(0)), times(1, drop(0)), api.ErrNone},
		{"dropped, of a ring", makes(3, append(ring(3), each(3, drop)...)...), each(3, drop), api.ErrNone},
		{"dropped as often as it had roots", makes(2, link(0, 1), root(1), drop(1), drop(1)), times(1, drop(1)), api.ErrNone},
		{"a pointer, or none, at first", nil, append(pairs(2, link), pairs(2, cut)...), api.ErrRange},
		{"a pointer from no node, or to none", makes(2, ring(2)...), both(spread(2, 3, 11), 1), api.ErrRange},
		{"a pointer from one that is gone, or to it", gone, both(spread(0, 1, 3), 2), api.ErrRange},
		{"a pointer from none to none", makes(2), append(asks(spread(2), func(n int) step { return link(n, n) }), asks(spread(2), func(n int) step { return cut(n, n) })...), api.ErrRange},
		{"a pointer from one that is gone to itself", gone, []step{link(0, 0), link(1, 1), link(0, 1), cut(0, 0), cut(1, 1), cut(0, 1), cut(1, 2)}, api.ErrRange},
		{"a pointer more than MaxOuts", fullNode(2), []step{link(0, 0), link(0, 1)}, api.ErrFull},
		{"a pointer more than MaxOuts, of the last node", makes(12, times(4, link(11, 3))...), each(12, func(to int) step { return link(11, to) }), api.ErrFull},
		{"a pointer more than MaxOuts, behind cutting one", fullNode(3, cut(0, 0), link(0, 2)), each(3, func(to int) step { return link(0, to) }), api.ErrFull},
		{"a pointer more than MaxOuts to no node: ErrRange is told, not ErrFull", fullNode(2), asks(spread(2, 3), func(to int) step { return link(0, to) }), api.ErrRange},
		{"a pointer more than MaxOuts to one that is gone", fullNode(2, drop(1)), []step{link(0, 1), link(1, 0), link(1, 1)}, api.ErrRange},
		{"no pointer to cut", makes(3), pairs(3, cut), api.ErrNone},
		{"no pointer to cut, but one the other way, and others", makes(3, link(0, 1), link(0, 2), link(2, 2)), []step{cut(1, 0), cut(2, 0), cut(0, 0), cut(1, 1), cut(1, 2), cut(2, 1)}, api.ErrNone},
		{"a pointer that was cut", makes(2, link(0, 1), link(0, 1), link(1, 0), cut(0, 1), cut(0, 1)), []step{cut(0, 1), cut(0, 0), cut(1, 1)}, api.ErrNone},
		{"no pointer to cut that is none: ErrRange is told, not ErrNone", makes(2), both(spread(2), 0), api.ErrRange},
	}
	for _, c := range cases {
		for _, s := range c.asked {
			t.Run(fmt.Sprint(c.name, ": ", s), func(t *testing.T) {
				h := again(c.steps)
				was, want := stands(h), fmt.Sprint("0 ", c.want)
				for range 2 {
					if got := take(h, s); got != want {
						t.Errorf("told %s, want %s", got, want)
					}
					if got := stands(h); got != was {
						t.Errorf("stood %s, stands %s", was, got)
					}
				}
			})
		}
	}
}

func TestCount(t *testing.T) {
	cases := []struct {
		name          string
		steps         []step
		counts, zeros []int
	}{
		{"none", nil, nil, []int{0, 1}},
		{"made", makes(3), []int{1, 1, 1}, []int{3, 4}},
		{"roots and pointers, together", makes(3, root(1), link(0, 1), link(0, 1), link(1, 1), link(2, 0)), []int{2, 5, 1}, []int{3}},
		{"gone", makes(3, link(0, 1), drop(1), drop(0)), []int{0, 0, 1}, []int{3}},
		{"the greatest count, of all roots and all pointers", append(append(makes(12), each(12, drop)[1:]...), times(11, root(0))...), []int{12, 0, 0, 0, 0, 0, 0, 0, 0, 0, 0, 0}, nil},
		{"all pointers to one", makes(12, slices.Repeat(each(12, func(node int) step { return link(node, 4) }), 4)...), []int{1, 1, 1, 1, 49, 1, 1, 1, 1, 1, 1, 1}, nil},
	}
	for _, c := range cases {
		t.Run(c.name, func(t *testing.T) {
			h := again(c.steps)
			set := 0
			for node, want := range c.counts {
				if got := h.Count(node); got != want {
					t.Errorf("Count(%d) is %d, want %d", node, got, want)
				}
				if want > 0 {
					set |= 1 << node
				}
			}
			for _, node := range spread(c.zeros...) {
				if got := h.Count(node); got != 0 {
					t.Errorf("Count(%d) is %d, want 0", node, got)
				}
			}
			if got := h.Here(); got != set {
				t.Errorf("here are %b, want %b", got, set)
			}
		})
	}
}

// arrow points to a node, from another one, or from outside.
type arrow struct{ from, to int }

const outside = -1

// quiver is one list of arrows, as they came. It knows what is here by going through all of them, again and again.
type quiver struct {
	made   int
	arrows []arrow
}

// from gives what all arrows from one place point to.
func (q *quiver) from(place int) (list []int) {
	for _, a := range q.arrows {
		if a.from == place {
			list = append(list, a.to)
		}
	}
	return list
}

func (q *quiver) Count(i int) (count int) {
	for _, a := range q.arrows {
		if a.to == i {
			count++
		}
	}
	return count
}

// put puts an arrow behind all, which is refused where one of its ends is not here, or there are so many from there.
func (q *quiver) put(a arrow, most int) error {
	for _, end := range []int{a.from, a.to} {
		if end != outside && q.Count(end) == 0 {
			return api.ErrRange
		}
	}
	if a.to == outside {
		return api.ErrRange
	}
	if len(q.from(a.from)) >= most {
		return api.ErrFull
	}
	q.arrows = append(slices.Clone(q.arrows), a)
	return nil
}

// pull takes the first arrow of a kind away, and then all those from where no other one points to, until there are none.
func (q *quiver) pull(a arrow) error {
	if fault := q.put(a, math.MaxInt); fault != nil {
		return fault
	}
	q.arrows = q.arrows[:len(q.arrows)-1]
	first := slices.Index(q.arrows, a)
	if first < 0 {
		return api.ErrNone
	}
	q.arrows = slices.Delete(slices.Clone(q.arrows), first, first+1)
	for before := -1; before != len(q.arrows); {
		before = len(q.arrows)
		var left []arrow
		for _, a := range q.arrows {
			if a.from == outside || q.Count(a.from) > 0 {
				left = append(left, a)
			}
		}
		q.arrows = left
	}
	return nil
}

func (q *quiver) Make() (int, error) {
	if q.made >= 12 || len(q.from(outside)) >= 12 {
		return 0, api.ErrFull
	}
	q.arrows = append(slices.Clone(q.arrows), arrow{outside, q.made})
	q.made++
	return q.made - 1, nil
}

func (q *quiver) Root(i int) error { return q.put(arrow{outside, i}, 12) }

func (q *quiver) Drop(i int) error { return q.pull(arrow{outside, i}) }

func (q *quiver) Link(i, j int) error {
	if i == outside {
		return api.ErrRange
	}
	return q.put(arrow{i, j}, 4)
}

func (q *quiver) Cut(i, j int) error {
	if i == outside {
		return api.ErrRange
	}
	return q.pull(arrow{i, j})
}

func (q *quiver) Here() int {
	set := 0
	for _, a := range q.arrows {
		set |= 1 << a.to
	}
	return set
}

func (q *quiver) Heap() api.Heap {
	heap := api.Heap{Roots: q.from(outside)}
	for node := range q.made {
		heap.Outs = append(heap.Outs, q.from(node))
	}
	return heap
}

// compareAll goes behind the steps gone every row of so many of the steps next, with a heap and with a quiver, and holds the last step, and how all stands then, against each other.
func compareAll(t *testing.T, q quiver, gone, next []step, many int) {
	t.Helper()
	if many == 0 {
		return
	}
	for _, last := range next {
		with, h := q, again(gone)
		steps := append(slices.Clone(gone), last)
		want := take(&with, last)
		if got := take(h, last); got != want {
			t.Fatalf("%v: the last step told %s, want %s", steps, got, want)
		}
		if got, want := stands(h), stands(&with); got != want {
			t.Fatalf("%v: stands %s, want %s", steps, got, want)
		}
		compareAll(t, with, steps, next, many-1)
	}
}

// anyOf gives all steps with nodes below a bound.
func anyOf(bound int) []step {
	return slices.Concat(makes(1), each(bound, root), each(bound, drop), pairs(bound, link), pairs(bound, cut))
}

func TestAllSmall(t *testing.T) {
	cases := []struct {
		gone, next []step
		many       int
	}{
		{nil, anyOf(1), 6},
		{nil, anyOf(2), 4},
		{makes(2, ring(2)...), anyOf(2), 4},
		{makes(3, append(ring(3), drop(1), drop(2))...), anyOf(3), 3},
		{makes(3, append(row(3), drop(1), drop(2), link(2, 1))...), anyOf(3), 3},
		{slices.Concat(makes(2), times(10, root(0)), times(3, link(0, 1)), times(3, link(1, 1)), []step{drop(1)}), anyOf(3), 3},
		{makes(11, append(ring(11), each(11, drop)[2:]...)...), []step{makeOne, root(5), drop(0), drop(1), cut(0, 1), cut(10, 0), cut(5, 6), link(5, 6), link(0, 5), drop(11), link(11, 5)}, 4},
	}
	for _, c := range cases {
		var q quiver
		all(&q, c.gone)
		compareAll(t, q, c.gone, c.next, c.many)
	}
}

// scattered gives a source of numbers that jump about below a bound, the same ones for the same seed.
func scattered(seed int) func(below int) int {
	state := uint64(seed) + 1
	return func(below int) int {
		state = state*6364136223846793005 + 1442695040888963407
		return int(state >> 33 % uint64(below))
	}
}

// scatter gives a step: mostly with what is there, else with any numbers. Of some seeds much is made and linked, and of some much is dropped and cut.
func scatter(q *quiver, seed int, next func(below int) int) step {
	node, to := next(q.made+2)-1, next(q.made+2)-1
	if there := len(q.arrows); there > 0 && next(8) > 0 {
		node, to = q.arrows[next(there)].to, q.arrows[next(there)].to
	}
	switch which := next(24); {
	case which < 1+seed%3:
		return makeOne
	case which < 7:
		return root(node)
	case which < 10+seed%4:
		return drop(node)
	case which < 17+seed%5:
		return link(node, to)
	case len(q.from(node)) > 0 && node != outside && next(4) > 0:
		return cut(node, q.from(node)[next(len(q.from(node)))])
	}
	return cut(node, to)
}

// long goes 200 steps with a heap and a quiver, behind as many nodes as a seed asks for, and looks at each step behind it.
func long(t *testing.T, seed int, look func(h *counts.Heap, q *quiver, gone step)) {
	t.Helper()
	h, q, next := counts.New(), &quiver{}, scattered(seed)
	steps := makes(seed % 8)
	for i := range 200 {
		gone := scatter(q, seed, next)
		if i < len(steps) {
			gone = steps[i]
		}
		if got, want := take(h, gone), take(q, gone); got != want {
			t.Fatalf("seed %d: %v told %s, want %s", seed, gone, got, want)
		}
		look(h, q, gone)
	}
}

func TestLong(t *testing.T) {
	for seed := range 400 {
		long(t, seed, func(h *counts.Heap, q *quiver, gone step) {
			if got, want := stands(h), stands(q); got != want {
				t.Fatalf("seed %d, behind %v: stands %s, want %s", seed, gone, got, want)
			}
		})
	}
}

// setOf gives the nodes of a set.
func setOf(set int) (nodes []int) {
	for node := range 12 {
		if set>>node&1 == 1 {
			nodes = append(nodes, node)
		}
	}
	return nodes
}

// Counts are true, but for rings: what is here is just what can be come to from roots, and from rings that nobody let go of.
func TestTrueButForRings(t *testing.T) {
	for seed := range 400 {
		long(t, seed, func(h *counts.Heap, q *quiver, gone step) {
			heap := h.Heap()
			reach, err := graph.Reach(heap)
			if err != nil {
				t.Fatalf("seed %d: %v is told to be no heap: %v", seed, heap, err)
			}
			rounds, _ := graph.Rounds(heap)
			fromRings, _ := graph.Reach(api.Heap{Outs: heap.Outs, Roots: setOf(rounds)})
			if got := h.Here(); got != reach|fromRings {
				t.Fatalf("seed %d: here are %b, of %v", seed, got, heap)
			}
		})
	}
}

// Who is not here is pointed to by none, and points to none; and all counts together are all roots and pointers.
func TestCountsAreWhole(t *testing.T) {
	for seed := range 100 {
		long(t, seed, func(h *counts.Heap, q *quiver, gone step) {
			heap := h.Heap()
			arrows, counted := len(heap.Roots), 0
			for node, outs := range heap.Outs {
				count, here := h.Count(node), h.Here()>>node&1 == 1
				if here != (count > 0) || !here && len(outs) > 0 {
					t.Fatalf("seed %d: node %d is counted %d times, of %v, and here are %b", seed, node, count, heap, h.Here())
				}
				counted, arrows = counted+count, arrows+len(outs)
			}
			if counted != arrows || h.Here()>>len(heap.Outs) != 0 {
				t.Fatalf("seed %d: counted %d, there are %d roots and pointers of %v", seed, counted, arrows, heap)
			}
		})
	}
}

// endings gives the steps by which a root or a pointer of a heap is there no more.
func endings(heap api.Heap) []step {
	steps := asks(heap.Roots, drop)
	for node, outs := range heap.Outs {
		steps = append(steps, asks(outs, func(to int) step { return cut(node, to) })...)
	}
	return steps
}

// All is gone once all roots are dropped and all pointers cut, in whichever order.
func TestAllGoes(t *testing.T) {
	for seed := range 200 {
		next := scattered(seed + 1_000)
		var h *counts.Heap
		long(t, seed, func(last *counts.Heap, q *quiver, gone step) { h = last })
		for steps := endings(h.Heap()); len(steps) > 0; steps = endings(h.Heap()) {
			last := steps[next(len(steps))]
			if got := take(h, last); got != "0 OK" {
				t.Fatalf("seed %d: %v told %s, of %v", seed, last, got, h.Heap())
			}
			if left := endings(h.Heap()); len(left) >= len(steps) {
				t.Fatalf("seed %d: behind %v there are %v, there were %v", seed, last, left, steps)
			}
		}
		if h.Here() != 0 {
			t.Errorf("seed %d: nothing points to %b, but they are here", seed, h.Here())
		}
	}
}

// lists gives all lists of numbers of a heap, with what stands behind their lengths.
func lists(heap api.Heap) [][]int {
	rows := append([][]int{heap.Roots}, heap.Outs...)
	for i, list := range rows {
		rows[i] = list[:cap(list)]
	}
	return rows
}

// spoil writes over all that belongs to a heap that was answered.
func spoil(heap api.Heap) {
	for _, list := range lists(heap) {
		for i := range list {
			list[i] = -7
		}
	}
	outs := heap.Outs[:cap(heap.Outs)]
	for i := range outs {
		outs[i] = []int{-7, -7, -7, -7, -7}
	}
}

// rows lead to heaps of all kinds.
var rows = [][]step{
	nil,
	makes(1),
	makes(1, drop(0)),
	makes(3, link(0, 2), link(0, 1), link(0, 2), root(1), cut(0, 2), link(2, 0)),
	makes(4, append(ring(4), drop(1), drop(3), link(2, 2), root(2), drop(0))...),
	makes(12, slices.Repeat(ring(12), 4)...),
	fullNode(5, link(1, 4), link(4, 1), drop(4), drop(3)),
}

func TestAnswersAreTheCallers(t *testing.T) {
	for _, steps := range rows {
		h := again(steps)
		was := stands(h)
		first, second := h.Heap(), h.Heap()
		want := fmt.Sprint(second)
		spoil(first)
		if got := fmt.Sprint(second); got != want {
			t.Errorf("behind %v: two answers share memory: %s, want %s", steps, got, want)
		}
		if got := stands(h); got != was {
			t.Errorf("behind %v: an answer is kept: stood %s, stands %s", steps, was, got)
		}
		for _, next := range anyOf(3) {
			spoiled, unspoiled := again(steps), again(steps)
			spoil(spoiled.Heap())
			if got, want := take(spoiled, next), take(unspoiled, next); got != want {
				t.Errorf("behind %v: an answer is kept: %v told %s, want %s", steps, next, got, want)
			}
			if got, want := stands(spoiled), stands(unspoiled); got != want {
				t.Errorf("behind %v and %v: an answer is kept: stands %s, want %s", steps, next, got, want)
			}
		}
	}
}

// No two lists of one answer share memory, not even behind their lengths.
func TestListsAreApart(t *testing.T) {
	for _, steps := range rows {
		heap := again(steps).Heap()
		all := lists(heap)
		for mark, list := range all {
			for i := range list {
				list[i] = -mark - 1
			}
		}
		for mark, list := range all {
			for _, number := range list {
				if number != -mark-1 {
					t.Fatalf("behind %v: lists %d and %d share memory", steps, mark, -number-1)
				}
			}
		}
	}
}

// What was told stays as it was, whatever is done later.
func TestAnswersStay(t *testing.T) {
	later := []step{link(0, 1), cut(0, 2), drop(0), cut(2, 2), root(2), makeOne, drop(1), cut(4, 1), link(2, 0), drop(2)}
	for _, steps := range rows {
		h := again(steps)
		heap := h.Heap()
		want := fmt.Sprint(heap)
		all(h, later)
		if got := fmt.Sprint(heap); got != want {
			t.Errorf("behind %v: told was %s, is %s", steps, want, got)
		}
	}
}

// Heaps know nothing of each other.
func TestHeapsAreApart(t *testing.T) {
	for _, steps := range rows {
		a, b := again(steps), again(steps)
		was := stands(b)
		all(a, []step{makeOne, drop(0), root(1), cut(0, 1), cut(1, 2), link(2, 2), drop(1), drop(2), makeOne})
		if got := stands(b); got != was {
			t.Errorf("behind %v: stood %s, stands %s", steps, was, got)
		}
		if got := stands(counts.New()); got != fresh {
			t.Errorf("behind %v: a new one stands %s", steps, got)
		}
	}
}

// To ask how a heap stands changes nothing.
func TestAskingChangesNothing(t *testing.T) {
	for seed := range 20 {
		var steps []step
		var asked *counts.Heap
		long(t, seed, func(h *counts.Heap, q *quiver, gone step) {
			stands(h)
			for _, node := range wrong {
				h.Count(node)
			}
			asked, steps = h, append(steps, gone)
		})
		if got, want := stands(asked), stands(again(steps)); got != want {
			t.Errorf("seed %d: asked stands %s, unasked %s", seed, got, want)
		}
	}
}
