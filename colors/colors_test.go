package colors_test

import (
	"fmt"
	"math"
	"slices"
	"strings"
	"testing"

	"larderwick/api"
	"larderwick/colors"
	"larderwick/graph"
	"larderwick/plain"
)

// to gives the pointers of a node.
func to(nodes ...int) []int { return nodes }

// upTo gives the numbers below a bound, rising.
func upTo(bound int) []int {
	list := make([]int, bound)
	for i := range list {
		list[i] = i
	}
	return list
}

// bare gives so many nodes that point to nothing.
func bare(many int) [][]int { return make([][]int, many) }

// same gives so many nodes, each with the same pointers.
func same(many int, outs ...int) [][]int { return slices.Repeat([][]int{outs}, many) }

// row gives so many nodes, each of which points to the one behind it.
func row(many int) [][]int {
	outs := bare(many)
	for i := range many - 1 {
		outs[i] = to(i + 1)
	}
	return outs
}

// ring gives a row whose last node points to the first.
func ring(many int) [][]int {
	return with(row(many), many-1, 0)
}

// with gives a copy of the pointers of nodes in which one node has others.
func with(outs [][]int, node int, others ...int) [][]int {
	changed := slices.Clone(outs)
	changed[node] = others
	return changed
}

// heap gives a heap of nodes, and roots.
func heap(outs [][]int, roots ...int) api.Heap { return api.Heap{Outs: outs, Roots: roots} }

// deed is a step of the mark, or points a pointer of a node to another one.
type deed struct {
	points          bool
	node, place, to int
}

var step = deed{}

func point(node, place, to int) deed { return deed{true, node, place, to} }

// steps gives so many steps, and deeds behind them.
func steps(many int, later ...deed) []deed {
	return append(slices.Repeat([]deed{step}, many), later...)
}

// points gives what points any pointer below a bound of any of some nodes to any of them.
func points(nodes, places []int) []deed {
	var deeds []deed
	for _, node := range nodes {
		for _, place := range places {
			for _, to := range nodes {
				deeds = append(deeds, point(node, place, to))
			}
		}
	}
	return deeds
}

// marker is whatever marks a heap that is changed.
type marker interface {
	Step() bool
	Point(i, k, j int) error
	Colors() []int
	Heap() api.Heap
}

// take does a deed, and writes what is told.
func take(m marker, d deed) string {
	if d.points {
		return plain.Told(m.Point(d.node, d.place, d.to)).Error()
	}
	return fmt.Sprint(m.Step())
}

// all does one deed behind the other, and writes what is told.
func all(m marker, deeds []deed) string {
	var told []string
	for _, d := range deeds {
		told = append(told, take(m, d))
	}
	return strings.Join(told, " ")
}

// stands writes the colors, the pointers, and the roots.
func stands(m marker) string {
	h := m.Heap()
	return fmt.Sprint(m.Colors(), " ", h.Outs, " ", h.Roots)
}

// again gives a mark of a heap, behind some deeds.
func again(h api.Heap, deeds []deed) *colors.Mark {
	m, err := colors.New(h)
	if err != nil {
		panic(err)
	}
	all(m, deeds)
	return m
}

func TestNew(t *testing.T) {
	cases := []struct {
		name  string
		h     api.Heap
		after string
	}{
		{"nil, no node", heap(nil), "[] [] []"},
		{"empty, no node", heap([][]int{}, []int{}...), "[] [] []"},
		{"one node, no root", heap(bare(1)), "[0] [[]] []"},
		{"one node, and a root", heap(bare(1), 0), "[1] [[]] [0]"},
		{"pointers that are nil, or empty", heap([][]int{nil, {}}, 1), "[0 1] [[] []] [1]"},
		{"what a root points to alone, not what that points to", heap(row(3), 0), "[1 0 0] [[1] [2] []] [0]"},
		{"a ring, and a root in its middle", heap(ring(4), 2), "[0 0 1 0] [[1] [2] [3] [0]] [2]"},
		{"a ring, and no root", heap(ring(3)), "[0 0 0] [[1] [2] [0]] []"},
		{"roots in any order", heap(bare(5), 4, 0, 2), "[1 0 1 0 1] [[] [] [] [] []] [4 0 2]"},
		{"the same root more than once", heap(bare(3), 2, 1, 2, 2), "[0 1 1] [[] [] []] [2 1 2 2]"},
		{"one node, as many pointers and roots as may be", heap(same(1, 0, 0, 0, 0), make([]int, api.MaxNodes)...), "[1] [[0 0 0 0]] [0 0 0 0 0 0 0 0 0 0 0 0]"},
		{"as many nodes and roots as may be", heap(row(api.MaxNodes), upTo(api.MaxNodes)...), "[1 1 1 1 1 1 1 1 1 1 1 1] [[1] [2] [3] [4] [5] [6] [7] [8] [9] [10] [11] []] [0 1 2 3 4 5 6 7 8 9 10 11]"},
		{"the last of all nodes alone", heap(bare(api.MaxNodes), 11), "[0 0 0 0 0 0 0 0 0 0 0 1] [[] [] [] [] [] [] [] [] [] [] [] []] [11]"},
	}
	for _, c := range cases {
		t.Run(c.name, func(t *testing.T) {
			m, err := colors.New(c.h)
			if err != nil {
				t.Fatal(err)
			}
			if got := stands(m); got != c.after {
				t.Errorf("stands %s, want %s", got, c.after)
			}
		})
	}
}

// Nothing is changed between the steps; told are the colors behind each one for which there was a grey node.
func TestStep(t *testing.T) {
	cases := []struct {
		name   string
		h      api.Heap
		behind []string
	}{
		{"no node", heap(nil), nil},
		{"no root", heap(ring(3)), nil},
		{"one node", heap(bare(1), 0), []string{"[2]"}},
		{"one that points to itself is black, not grey again", heap(same(1, 0, 0), 0), []string{"[2]"}},
		{"all it points to is grey", heap([][]int{to(3, 1), nil, nil, nil}, 0), []string{"[2 1 0 1]", "[2 2 0 1]", "[2 2 0 2]"}},
		{"the first pointer, and the last", heap([][]int{to(4, 0, 0, 1), nil, nil, nil, nil}, 0), []string{"[2 1 0 0 1]", "[2 2 0 0 1]", "[2 2 0 0 2]"}},
		{"the same pointer more than once", heap([][]int{to(1, 1, 1), to(0, 0)}, 0, 0), []string{"[2 1]", "[2 2]"}},
		{"the least one first, not that of the first root", heap(bare(4), 3, 1, 2), []string{"[0 2 1 1]", "[0 2 2 1]", "[0 2 2 2]"}},
		{"the least one first, though others were grey earlier", heap([][]int{nil, to(0), nil, nil}, 1, 2, 3), []string{"[1 2 1 1]", "[2 2 1 1]", "[2 2 2 1]", "[2 2 2 2]"}},
		{"what is grey stays grey", heap([][]int{to(1, 2), nil, nil}, 0, 2), []string{"[2 1 1]", "[2 2 1]", "[2 2 2]"}},
		{"what is black stays black", heap(ring(3), 0), []string{"[2 1 0]", "[2 2 1]", "[2 2 2]"}},
		{"what only a black node points to", heap([][]int{to(1), to(2), to(1)}, 0), []string{"[2 1 0]", "[2 2 1]", "[2 2 2]"}},
		{"from the end of a row on", heap(row(4), 3), []string{"[0 0 0 2]"}},
		{"from the middle of a row on", heap(row(4), 2), []string{"[0 0 2 1]", "[0 0 2 2]"}},
		{"what can't be come to stays white, though it points to what can", heap([][]int{to(1), nil, to(0, 1), to(2)}, 0), []string{"[2 1 0 0]", "[2 2 0 0]"}},
		{"a ring that no root points to", heap([][]int{nil, to(2), to(1)}, 0), []string{"[2 0 0]"}},
		{"two ways to one node", heap([][]int{to(1, 2), to(3), to(3), nil}, 0), []string{"[2 1 1 0]", "[2 2 1 1]", "[2 2 2 1]", "[2 2 2 2]"}},
		{"as many nodes as may be, all point to four", heap(same(api.MaxNodes, 3, 11, 0, 8), 5), []string{
			"[1 0 0 1 0 2 0 0 1 0 0 1]", "[2 0 0 1 0 2 0 0 1 0 0 1]", "[2 0 0 2 0 2 0 0 1 0 0 1]", "[2 0 0 2 0 2 0 0 2 0 0 1]", "[2 0 0 2 0 2 0 0 2 0 0 2]",
		}},
	}
	for _, c := range cases {
		t.Run(c.name, func(t *testing.T) {
			m := again(c.h, nil)
			was := fmt.Sprint(m.Heap())
			for i, want := range c.behind {
				if told, got := m.Step(), fmt.Sprint(m.Colors()); !told || got != want {
					t.Errorf("step %d told %v: colors %s, want %s", i, told, got, want)
				}
			}
			for range 3 {
				last := fmt.Sprint(m.Colors())
				if m.Step() {
					t.Errorf("there is told to be a grey node, of %s", last)
				}
				if got := fmt.Sprint(m.Colors()); got != last {
					t.Errorf("colors were %s, are %s", last, got)
				}
			}
			if got := fmt.Sprint(m.Heap()); got != was {
				t.Errorf("the heap was %s, is %s", was, got)
			}
		})
	}
}

func TestPoint(t *testing.T) {
	fan := [][]int{to(1, 2, 3, 4), nil, nil, nil, nil}
	cases := []struct {
		name  string
		h     api.Heap
		deeds []deed
		told  string
		after string
	}{
		{"to a white node, of a white one", heap([][]int{to(1, 2), to(1), nil}, 0), []deed{point(1, 0, 2)}, "OK", "[1 0 1] [[1 2] [2] []] [0]"},
		{"to a white node, of a grey one", heap([][]int{to(1, 2), to(1), nil}, 0), []deed{point(0, 0, 2)}, "OK", "[1 0 1] [[2 2] [1] []] [0]"},
		{"to a white node, of a black one", heap([][]int{to(1), to(2, 2), nil}, 0), []deed{step, point(0, 0, 2)}, "true OK", "[2 1 1] [[2] [2 2] []] [0]"},
		{"to a grey node, of a white one", heap([][]int{to(1), to(2), nil}, 0), []deed{point(1, 0, 0)}, "OK", "[1 0 0] [[1] [0] []] [0]"},
		{"to a grey node, of a grey one", heap([][]int{to(1), nil, nil}, 0, 2), []deed{point(0, 0, 2)}, "OK", "[1 0 1] [[2] [] []] [0 2]"},
		{"to a grey node, of a black one", heap([][]int{to(0), nil}, 0, 1), []deed{step, point(0, 0, 1)}, "true OK", "[2 1] [[1] []] [0 1]"},
		{"to a black node, of a white one", heap([][]int{to(1), to(2), to(1)}, 0), []deed{step, point(2, 0, 0)}, "true OK", "[2 1 0] [[1] [2] [0]] [0]"},
		{"to a black node, of a grey one", heap([][]int{to(1), to(2), nil}, 0), []deed{step, point(1, 0, 0)}, "true OK", "[2 1 0] [[1] [0] []] [0]"},
		{"to a black node, of a black one", heap([][]int{to(1), nil}, 0), []deed{step, step, point(0, 0, 0)}, "true true OK", "[2 2] [[0] []] [0]"},
		{"to the node itself, white", heap([][]int{to(1), to(0)}, 0), []deed{point(1, 0, 1)}, "OK", "[1 1] [[1] [1]] [0]"},
		{"to the node itself, grey", heap([][]int{to(1), nil}, 0), []deed{point(0, 0, 0)}, "OK", "[1 0] [[0] []] [0]"},
		{"to where it points, white", heap(row(3), 0), []deed{point(0, 0, 1)}, "OK", "[1 1 0] [[1] [2] []] [0]"},
		{"to where it points, grey", heap(row(3), 0), []deed{step, point(0, 0, 1)}, "true OK", "[2 1 0] [[1] [2] []] [0]"},
		{"to where it points, twice", heap(row(3), 0), []deed{point(1, 0, 2), point(1, 0, 2)}, "OK OK", "[1 0 1] [[1] [2] []] [0]"},
		{"the first pointer", heap(fan, 0), []deed{point(0, 0, 3)}, "OK", "[1 0 0 1 0] [[3 2 3 4] [] [] [] []] [0]"},
		{"a pointer between", heap(fan, 0), []deed{point(0, 2, 1)}, "OK", "[1 1 0 0 0] [[1 2 1 4] [] [] [] []] [0]"},
		{"the last pointer", heap(fan, 0), []deed{point(0, 3, 0)}, "OK", "[1 0 0 0 0] [[1 2 3 0] [] [] [] []] [0]"},
		{"all pointers, one by one", heap(fan, 0), []deed{point(0, 0, 4), point(0, 1, 3), point(0, 2, 0), point(0, 3, 4)}, "OK OK OK OK", "[1 0 0 1 1] [[4 3 0 4] [] [] [] []] [0]"},
		{"one of the same pointers", heap([][]int{to(1, 1, 1), nil}, 0), []deed{point(0, 1, 0)}, "OK", "[1 0] [[1 0 1] []] [0]"},
		{"of the last node, to the last", heap(ring(api.MaxNodes), 0), []deed{point(11, 0, 11)}, "OK", "[1 0 0 0 0 0 0 0 0 0 0 1] [[1] [2] [3] [4] [5] [6] [7] [8] [9] [10] [11] [11]] [0]"},
		{"the steps go on along the pointers as they are", heap([][]int{to(1), to(2), to(3), nil}, 0), []deed{point(1, 0, 3), step, step, step, step}, "OK true true true false", "[2 2 0 2] [[1] [3] [3] []] [0]"},
		{"what can't be come to any more keeps its color, white", heap([][]int{to(1), nil}, 0), []deed{point(0, 0, 0), step, step}, "OK true false", "[2 0] [[0] []] [0]"},
		{"what can't be come to any more keeps its color, grey, and is black then", heap(row(3), 0), []deed{step, point(0, 0, 0), step, step, step}, "true OK true true false", "[2 2 2] [[0] [2] []] [0]"},
		{"what can't be come to any more keeps its color, black", heap([][]int{to(1), nil}, 0), []deed{step, step, point(0, 0, 0), step}, "true true OK false", "[2 2] [[0] []] [0]"},
		{"a node that is hidden behind a black one is grey", heap([][]int{to(1), to(2), nil}, 0), []deed{step, point(0, 0, 2), step, step, step}, "true OK true true false", "[2 2 2] [[2] [2] []] [0]"},
		{"a node is hidden, and its old pointer is gone", heap([][]int{to(0), to(2), nil}, 0, 1), []deed{step, point(0, 0, 2), point(1, 0, 1), step, step, step}, "true OK OK true true false", "[2 2 2] [[2] [1] []] [0 1]"},
		{"behind a step that told that there was nothing grey", heap([][]int{to(1), to(0, 1)}, 0), steps(3, point(1, 1, 0), step, point(0, 0, 0), point(0, 0, 1), step), "true true false OK false OK ErrState false", "[2 2] [[0] [0 0]] [0]"},
		{"a root's node, no other root's", heap([][]int{to(1), to(1), nil}, 0, 2, 0), []deed{point(0, 0, 2), step, step, step}, "OK true true false", "[2 0 2] [[2] [1] []] [0 2 0]"},
		{"roots stay, whatever is pointed to", heap(same(2, 0, 1), 1, 0, 1), []deed{point(0, 0, 1), point(1, 1, 0), point(0, 1, 1)}, "OK OK OK", "[1 1] [[1 1] [0 0]] [1 0 1]"},
	}
	for _, c := range cases {
		t.Run(c.name, func(t *testing.T) {
			m := again(c.h, nil)
			if got := all(m, c.deeds); got != c.told {
				t.Errorf("told %s, want %s", got, c.told)
			}
			if got := stands(m); got != c.after {
				t.Errorf("stands %s, want %s", got, c.after)
			}
		})
	}
}

// wrong numbers are none of a node, nor of a pointer, however many there are.
var wrong = []int{-1, -2, -63, -64, 12, 13, 63, 64, 65, 128, math.MinInt, math.MaxInt, 1 << 32, -1 << 32, 1 << 62}

// ends gives what points pointer 0 of a node to ones that are none, and of ones that are none to it.
func ends(node int, none ...int) []deed {
	var deeds []deed
	for _, number := range append(slices.Clone(wrong), none...) {
		deeds = append(deeds, point(node, 0, number), point(number, 0, node), point(number, 0, number))
	}
	return deeds
}

// places gives what points a pointer of a node that is none to another one.
func places(node, to int, none ...int) []deed {
	var deeds []deed
	for _, number := range append(slices.Clone(wrong), none...) {
		deeds = append(deeds, point(node, number, to))
	}
	return deeds
}

func TestPointFaults(t *testing.T) {
	lone := [][]int{to(1), to(0, 2), nil, to(0), to(3, 3)}
	cases := []struct {
		name  string
		h     api.Heap
		deeds []deed
		asked []deed
		want  api.Errno
	}{
		{"no nodes", heap(nil), nil, append(ends(0, 0, 1), places(0, 0, 0, 1)...), api.ErrRange},
		{"no node", heap(ring(3), 0), nil, ends(1, 3, 4, 11), api.ErrRange},
		{"no node, of as many as may be", heap(ring(api.MaxNodes), 0), nil, ends(11), api.ErrRange},
		{"no pointer", heap(ring(3), 0), nil, places(1, 2, 1, 2, 3, 4, 5), api.ErrRange},
		{"no pointer, of a node that has none", heap(bare(2), 0, 1), nil, places(0, 1, 0, 1, 3), api.ErrRange},
		{"no pointer, of a node that has as many as may be", heap(same(1, 0, 0, 0, 0), 0), nil, places(0, 0, 4, 5), api.ErrRange},
		{"no pointer of that node, though others have more", heap([][]int{to(0, 0), same(1, 1, 1, 1, 1)[0], to(0)}, 0, 1, 2), nil, append(places(0, 1, 2, 3), places(2, 1, 1, 2, 3)...), api.ErrRange},
		{"no node, and no pointer", heap(ring(3), 0), nil, []deed{point(3, 1, 0), point(0, 1, 3), point(-1, -1, -1), point(3, 3, 3), point(0, -1, -1)}, api.ErrRange},
		{"no node, behind all steps", heap(ring(3), 0), steps(4), append(ends(1, 3), places(1, 1, 1)...), api.ErrRange},
		{"of a node that can't be come to", heap(lone, 0), nil, []deed{point(3, 0, 0), point(3, 0, 1), point(4, 0, 2), point(4, 1, 1)}, api.ErrState},
		{"to a node that can't be come to", heap(lone, 0), nil, []deed{point(0, 0, 3), point(1, 0, 4), point(1, 1, 3)}, api.ErrState},
		{"of one that can't be come to, to such a one", heap(lone, 0), nil, []deed{point(3, 0, 3), point(3, 0, 4), point(4, 0, 3), point(4, 1, 3)}, api.ErrState},
		{"of such ones, behind all steps", heap(lone, 0), steps(4), []deed{point(3, 0, 0), point(0, 0, 3), point(4, 1, 4)}, api.ErrState},
		{"no roots", heap(ring(3)), nil, points(upTo(3), to(0)), api.ErrState},
		{"a ring that no root points to", heap([][]int{to(0), to(2), to(1)}, 0), nil, []deed{point(1, 0, 1), point(2, 0, 0), point(0, 0, 2)}, api.ErrState},
		{"no more to be come to, white", heap([][]int{to(1), to(0)}, 0), []deed{point(0, 0, 0)}, []deed{point(0, 0, 1), point(1, 0, 0), point(1, 0, 1)}, api.ErrState},
		{"no more to be come to, grey", heap([][]int{to(1), to(0)}, 0), []deed{step, point(0, 0, 0)}, []deed{point(0, 0, 1), point(1, 0, 0), point(1, 0, 1)}, api.ErrState},
		{"no more to be come to, black", heap([][]int{to(1), to(0)}, 0), []deed{step, step, point(0, 0, 0)}, []deed{point(0, 0, 1), point(1, 0, 0), point(1, 0, 1)}, api.ErrState},
		{"no more to be come to, nor all that it points to", heap(row(12), 0), []deed{step, point(3, 0, 2)}, []deed{point(4, 0, 0), point(0, 0, 11), point(10, 0, 11), point(7, 0, 7)}, api.ErrState},
		{"no more to be come to, but from one that is no more", heap([][]int{to(1, 2), to(2), to(1)}, 0), []deed{point(0, 0, 0), point(0, 1, 0)}, points(to(1, 2), to(0)), api.ErrState},
		{"of one that can't be come to, to none: ErrRange is told, not ErrState", heap(lone, 0), nil, append(ends(3, 5, 6), ends(4, 5)...), api.ErrRange},
		{"of one that can't be come to, no such pointer: ErrRange is told, not ErrState", heap(lone, 0), nil, append(places(3, 0, 1, 2, 3), places(4, 4, 2, 3)...), api.ErrRange},
		{"to one that can't be come to, no such pointer: ErrRange is told, not ErrState", heap(lone, 0), nil, append(places(0, 3, 1, 2, 3), places(2, 4, 0)...), api.ErrRange},
		{"no roots, no such pointer", heap(bare(2)), nil, places(0, 1, 0), api.ErrRange},
	}
	for _, c := range cases {
		for _, d := range c.asked {
			t.Run(fmt.Sprint(c.name, ": ", d), func(t *testing.T) {
				m := again(c.h, c.deeds)
				was := stands(m)
				for range 2 {
					if got := take(m, d); got != c.want.Error() {
						t.Errorf("told %s, want %s", got, c.want)
					}
					if got := stands(m); got != was {
						t.Errorf("stood %s, stands %s", was, got)
					}
				}
			})
		}
	}
}

// refused tells how New answers a heap that has a fault, and that it gives no mark.
func refused(t *testing.T, h api.Heap, want api.Errno) {
	t.Helper()
	for range 2 {
		m, err := colors.New(h)
		if got := plain.Told(err); got != want || m != nil {
			t.Fatalf("%v: got a mark: %v, and %v, want %v", h, m != nil, got, want)
		}
	}
}

func TestNewFaults(t *testing.T) {
	full := ring(api.MaxNodes)
	over := ring(api.MaxNodes + 1)
	more := make([]int, api.MaxNodes+1)
	cases := []struct {
		name string
		h    api.Heap
		want api.Errno
	}{
		{"a node more than MaxNodes", heap(over, 0), api.ErrFull},
		{"a node more, no root, no pointer", heap(bare(api.MaxNodes + 1)), api.ErrFull},
		{"far too many nodes", heap(row(1_000), 0), api.ErrFull},
		{"a root more than MaxNodes", heap(full, more...), api.ErrFull},
		{"a root more, though there is one node", heap(bare(1), more...), api.ErrFull},
		{"a root is the number of nodes", heap(bare(3), 3), api.ErrRange},
		{"a root is MaxNodes, of MaxNodes nodes", heap(full, api.MaxNodes), api.ErrRange},
		{"a root of no nodes", heap(nil, 0), api.ErrRange},
		{"a root below 0", heap(full, -1), api.ErrRange},
		{"a root at the first number", heap(full, math.MinInt), api.ErrRange},
		{"a root at the last number", heap(full, math.MaxInt), api.ErrRange},
		{"only the last root is none", heap(full, append(upTo(api.MaxNodes-1), 12)...), api.ErrRange},
		{"a pointer more than MaxOuts", heap([][]int{to(0, 0, 0, 0, 0)}, 0), api.ErrFull},
		{"a pointer more, of a node that can't be come to", heap(with(bare(3), 1, 0, 1, 2, 0, 1), 0), api.ErrFull},
		{"a pointer is the number of nodes", heap([][]int{to(1), to(2)}, 0), api.ErrRange},
		{"a pointer below 0", heap(with(full, 0, -1), 0), api.ErrRange},
		{"a pointer at the first number", heap(with(full, 0, math.MinInt), 0), api.ErrRange},
		{"a pointer at the last number", heap(with(full, 0, math.MaxInt), 0), api.ErrRange},
		{"only the last pointer of the last node is none", heap(with(full, 11, 0, 1, 2, 12), 0), api.ErrRange},
		{"a pointer that is none, of a node that can't be come to", heap([][]int{nil, to(2)}, 0), api.ErrRange},
		{"too many nodes ahead of a root that is none", heap(over, -1), api.ErrFull},
		{"too many nodes ahead of a pointer that is none", heap(with(over, 0, -1), 0), api.ErrFull},
		{"too many roots ahead of a root that is none", heap(full, append(to(-1), upTo(api.MaxNodes)...)...), api.ErrFull},
		{"too many roots ahead of a root of no nodes", heap(nil, more...), api.ErrFull},
		{"a root that is none ahead of too many pointers", heap(with(full, 0, 0, 0, 0, 0, 0), 0, 12), api.ErrRange},
		{"too many pointers ahead of one that is none", heap(with(full, 3, -1, 0, 0, 0, 0), 0), api.ErrFull},
		{"a pointer that is none ahead of too many of a later node", heap(with(with(full, 3, 0, 12), 4, 0, 0, 0, 0, 0), 0), api.ErrRange},
		{"too many pointers ahead of one that is none of a later node", heap(with(with(full, 3, 0, 0, 0, 0, 0), 4, 12), 0), api.ErrFull},
	}
	for _, c := range cases {
		t.Run(c.name, func(t *testing.T) { refused(t, c.h, c.want) })
	}
}

// arrow is a pointer of a node, at its place, to another one.
type arrow struct{ from, place, to int }

// story knows of a heap what was marked, and whose pointers were looked at, one behind the other. It changes no list of its own, but has new ones.
type story struct {
	nodes          int
	arrows         []arrow
	roots          []int
	marked, looked []int
}

// storyOf begins with what roots point to.
func storyOf(h api.Heap) *story {
	s := &story{nodes: len(h.Outs), roots: h.Roots, marked: h.Roots}
	for from, outs := range h.Outs {
		for place, to := range outs {
			s.arrows = append(s.arrows, arrow{from, place, to})
		}
	}
	return s
}

func (s *story) Step() bool {
	for node := range s.nodes {
		if slices.Contains(s.marked, node) && !slices.Contains(s.looked, node) {
			s.looked = append(slices.Clone(s.looked), node)
			s.marked = append(slices.Clone(s.marked), s.below(node)...)
			return true
		}
	}
	return false
}

// below gives what a node points to.
func (s *story) below(node int) (list []int) {
	for _, a := range s.arrows {
		if a.from == node {
			list = append(list, a.to)
		}
	}
	return list
}

// come gives what can be come to from the roots, once or more often.
func (s *story) come() []int {
	list := slices.Clone(s.roots)
	for at := 0; at < len(list); at++ {
		for _, node := range s.below(list[at]) {
			if !slices.Contains(list, node) {
				list = append(list, node)
			}
		}
	}
	return list
}

func (s *story) Point(i, k, j int) error {
	at := slices.IndexFunc(s.arrows, func(a arrow) bool { return a.from == i && a.place == k })
	if at < 0 || !slices.Contains(upTo(s.nodes), j) {
		return api.ErrRange
	}
	if come := s.come(); !slices.Contains(come, i) || !slices.Contains(come, j) {
		return api.ErrState
	}
	s.arrows = slices.Clone(s.arrows)
	s.arrows[at].to = j
	s.marked = append(slices.Clone(s.marked), j)
	return nil
}

// Colors tells of each node how much is known: nothing, or that it was marked, or also what it points to.
func (s *story) Colors() []int {
	list := make([]int, s.nodes)
	for node := range list {
		for _, known := range [][]int{s.marked, s.looked} {
			if slices.Contains(known, node) {
				list[node]++
			}
		}
	}
	return list
}

func (s *story) Heap() api.Heap {
	h := heap(bare(s.nodes), s.roots...)
	for node := range h.Outs {
		h.Outs[node] = s.below(node)
	}
	return h
}

// compareAll does behind the deeds done every row of so many of the deeds next, with a mark and with a story, and holds the last deed, and how all stands then, against each other.
func compareAll(t *testing.T, h api.Heap, s story, done, next []deed, many int) {
	t.Helper()
	if many == 0 {
		return
	}
	for _, last := range next {
		with, m := s, again(h, done)
		deeds := append(slices.Clone(done), last)
		want := take(&with, last)
		if got := take(m, last); got != want {
			t.Fatalf("%v, %v: the last one told %s, want %s", h, deeds, got, want)
		}
		if got, want := stands(m), stands(&with); got != want {
			t.Fatalf("%v, %v: stands %s, want %s", h, deeds, got, want)
		}
		compareAll(t, h, with, deeds, next, many-1)
	}
}

// listsOf gives all lists of up to so many of some numbers.
func listsOf(most int, numbers []int) [][]int {
	all := [][]int{nil}
	for from := 0; most > 0; most-- {
		till := len(all)
		for ; from < till; from++ {
			for _, number := range numbers {
				all = append(all, append(slices.Clone(all[from]), number))
			}
		}
	}
	return all
}

// eachHeap asks for all heaps of so many nodes whose roots and pointers are any of some lists.
func eachHeap(nodes int, roots, pointers [][]int, ask func(api.Heap)) {
	outs := bare(nodes)
	var fill func(node int)
	fill = func(node int) {
		if node < nodes {
			for _, outs[node] = range pointers {
				fill(node + 1)
			}
			return
		}
		for _, list := range roots {
			ask(heap(outs, list...))
		}
	}
	fill(0)
}

// All heaps of up to three nodes, with at most one root and one pointer each, and of two nodes, with two; and all rows of three deeds, or four.
func TestAllSmall(t *testing.T) {
	cases := []struct{ nodes, roots, pointers, many int }{{0, 0, 0, 3}, {1, 2, 2, 4}, {2, 1, 1, 4}, {2, 2, 2, 3}, {3, 1, 1, 3}}
	for _, c := range cases {
		all := upTo(c.nodes)
		next := append(points(all, upTo(c.pointers)), step, point(0, c.pointers, 0), point(-1, 0, c.nodes))
		eachHeap(c.nodes, listsOf(c.roots, all), listsOf(c.pointers, all), func(h api.Heap) {
			compareAll(t, h, *storyOf(h), nil, next, c.many)
		})
	}
}

// Some heaps of three nodes or four, and all rows of three deeds behind some steps.
func TestAllRows(t *testing.T) {
	heaps := []api.Heap{
		heap([][]int{to(1, 2), to(2, 0), to(0, 1)}, 0),
		heap([][]int{to(1, 1), to(1, 2), to(2, 2)}, 0, 0),
		heap([][]int{to(2), to(0, 2), to(1)}, 1),
		heap([][]int{to(1, 3), to(2), to(0), to(3)}, 0, 1),
		heap([][]int{to(1), to(2), to(3), to(0)}, 3),
	}
	for _, h := range heaps {
		next := append(points(upTo(len(h.Outs)), to(0, 1)), step)
		for many := range 4 {
			s := storyOf(h)
			all(s, steps(many))
			compareAll(t, h, *s, steps(many), next, 2+many/2)
		}
	}
}

// All heaps of up to two nodes with numbers that may be none, and numbers of pointers that may be too many, as chapter 17's Check has them.
func TestAllFaults(t *testing.T) {
	for nodes := range 3 {
		numbers := to(-1, 0, nodes)
		roots := append(listsOf(2, numbers), make([]int, api.MaxNodes), make([]int, api.MaxNodes+1))
		pointers := append(listsOf(1, numbers), to(0, 0, 0, 0), to(0, 0, 0, 0, 0), to(0, 0, 0, -1), to(0, nodes, 0, 0, 0))
		eachHeap(nodes, roots, pointers, func(h api.Heap) {
			if fault := plain.Told(graph.Check(h)); fault != api.OK {
				refused(t, h, fault)
			} else if got, want := stands(again(h, nil)), stands(storyOf(h)); got != want {
				t.Fatalf("%v: stands %s, want %s", h, got, want)
			}
		})
	}
}

// scattered gives a source of numbers that jump about below a bound, the same ones for the same seed.
func scattered(seed int) func(below int) int {
	state := uint64(seed) + 1
	return func(below int) int {
		state = state*6364136223846793005 + 1442695040888963407
		return int(state >> 33 % uint64(below))
	}
}

// some gives up to so many scattered numbers below a bound.
func some(next func(below int) int, most, below int) []int {
	list := make([]int, next(most+1))
	for i := range list {
		list[i] = next(below)
	}
	return list
}

// great gives a heap of several nodes, and few roots; of some seeds there are few pointers, so that much can't be come to.
func great(seed int) api.Heap {
	next := scattered(seed)
	outs := bare(3 + next(api.MaxNodes-2))
	for node := range outs {
		outs[node] = some(next, 1+seed%api.MaxOuts, len(outs))
	}
	return heap(outs, some(next, 1+next(4), len(outs))...)
}

// scatter gives a deed: mostly a pointer that is there, to what can be come to, else any numbers. Of some seeds there are few steps between.
func scatter(s *story, seed int, next func(below int) int) deed {
	come := s.come()
	if next(2+seed%7) == 0 {
		return step
	}
	if next(6) > 0 && len(s.arrows) > 0 && len(come) > 0 {
		a := s.arrows[next(len(s.arrows))]
		return point(a.from, a.place, come[next(len(come))])
	}
	if next(4) == 0 {
		return point(wrong[next(len(wrong))], next(5)-1, next(s.nodes))
	}
	return point(next(s.nodes+2)-1, next(6)-1, next(s.nodes+2)-1)
}

// long does 60 deeds with a mark and a story of a heap of a seed, and looks at each behind it.
func long(t *testing.T, seed int, look func(m *colors.Mark, done deed)) *colors.Mark {
	t.Helper()
	h, next := great(seed), scattered(seed+1_000_000)
	m, s := again(h, nil), storyOf(h)
	for range 60 {
		done := scatter(s, seed, next)
		if got, want := take(m, done), take(s, done); got != want {
			t.Fatalf("seed %d: %v told %s, want %s", seed, done, got, want)
		}
		if got, want := stands(m), stands(s); got != want {
			t.Fatalf("seed %d, behind %v: stands %s, want %s", seed, done, got, want)
		}
		look(m, done)
	}
	return m
}

func TestLong(t *testing.T) {
	for seed := range 2_000 {
		long(t, seed, func(*colors.Mark, deed) {})
	}
}

// black gives the set of the nodes that are black.
func black(m *colors.Mark) int {
	set := 0
	for node, color := range m.Colors() {
		if color == 2 {
			set += 1 << node
		}
	}
	return set
}

// stepAll steps as often as there is a grey node: how often, which is at most once for each node.
func stepAll(t *testing.T, m *colors.Mark) int {
	t.Helper()
	for many := range api.MaxNodes + 1 {
		if !m.Step() {
			return many
		}
	}
	t.Fatalf("there is told to be a grey node, behind a step for each, of %v", m.Colors())
	return 0
}

// Where nothing is changed, what is black at the end is just what can be come to, with a step each.
func TestUnchanged(t *testing.T) {
	for seed := range 2_000 {
		h := great(seed)
		reach, _ := graph.Reach(h)
		m := again(h, nil)
		many := stepAll(t, m)
		if got := black(m); got != reach {
			t.Fatalf("%v: black are %b, what can be come to is %b", h, got, reach)
		}
		for _, color := range m.Colors() {
			if color == 2 {
				many--
			}
		}
		if many != 0 {
			t.Fatalf("%v: %v, with %d steps too many", h, m.Colors(), many)
		}
	}
}

// Whatever is changed, nothing that can be come to is lost at the end; and all that is marked could be come to once.
func TestNothingIsLost(t *testing.T) {
	for seed := range 2_000 {
		early, _ := graph.Reach(great(seed))
		m := long(t, seed, func(*colors.Mark, deed) {})
		stepAll(t, m)
		late, err := graph.Reach(m.Heap())
		if err != nil {
			t.Fatalf("seed %d: %v is told to be no heap: %v", seed, m.Heap(), err)
		}
		if got := black(m); late&^got != 0 || got&^early != 0 {
			t.Fatalf("seed %d: black are %b, what can be come to is %b, and was %b", seed, got, late, early)
		}
		if slices.Contains(m.Colors(), 1) {
			t.Fatalf("seed %d: there is nothing grey any more, of %v", seed, m.Colors())
		}
	}
}

// At no time does a black node point to a white one, nor does a root.
func TestBlackPointsToNoWhite(t *testing.T) {
	for seed := range 1_000 {
		long(t, seed, func(m *colors.Mark, done deed) {
			h, is := m.Heap(), m.Colors()
			pointed := slices.Clone(h.Roots)
			for node, outs := range h.Outs {
				if is[node] == 2 {
					pointed = append(pointed, outs...)
				}
			}
			for _, node := range pointed {
				if is[node] == 0 {
					t.Fatalf("seed %d, behind %v: node %d is white, of %v with colors %v", seed, done, node, h, is)
				}
			}
		})
	}
}

// No node is less dark than it was; a step makes one node black, and a change none.
func TestDarkerAndDarker(t *testing.T) {
	for seed := range 1_000 {
		was := again(great(seed), nil).Colors()
		long(t, seed, func(m *colors.Mark, done deed) {
			is, grey := m.Colors(), slices.Index(was, 1)
			for node, color := range is {
				turned := color == 2 && was[node] == 1
				if color < was[node] || color == 2 && was[node] == 0 || turned != (!done.points && node == grey) {
					t.Fatalf("seed %d: colors were %v, behind %v %v", seed, was, done, is)
				}
			}
			was = is
		})
	}
}

// kinds are heaps of all kinds, with deeds.
func kinds() []struct {
	h     api.Heap
	deeds []deed
} {
	return []struct {
		h     api.Heap
		deeds []deed
	}{
		{heap(nil), steps(1)},
		{heap(bare(3), 1), steps(1, point(1, 0, 0))},
		{heap([][]int{to(1, 2, 0), to(2, 1), to(0), to(3)}, 0, 1, 0), nil},
		{heap([][]int{to(1, 2, 0), to(2, 1), to(0), to(3)}, 0, 2), steps(1, point(0, 0, 2), point(2, 0, 0), step, point(0, 2, 1))},
		{heap(ring(4), 3), []deed{point(1, 0, 0), step, point(3, 0, 3), step}},
		{heap(same(api.MaxNodes, 3, 11, 0, 8), upTo(api.MaxNodes)...), steps(5, point(7, 3, 2))},
		{heap(same(api.MaxNodes, 3, 11, 0, 8), 5), steps(2, point(0, 0, 8), point(5, 1, 5), point(11, 3, 3))},
	}
}

// later are deeds behind which much stands otherwise.
func later() []deed {
	return []deed{point(0, 0, 1), step, point(1, 0, 1), step, point(0, 1, 0), point(3, 0, 3), point(0, 0, 2), step, point(5, 0, 5), step}
}

// lists gives all lists of numbers that are told of a mark, with what stands behind their lengths.
func lists(h api.Heap, of []int) [][]int {
	rows := append([][]int{of, h.Roots}, h.Outs...)
	for i, list := range rows {
		rows[i] = list[:cap(list)]
	}
	return rows
}

// spoil writes over all that is told of a heap and of its colors.
func spoil(h api.Heap, of []int) {
	for _, list := range lists(h, of) {
		for i := range list {
			list[i] = -7
		}
	}
	outs := h.Outs[:cap(h.Outs)]
	for i := range outs {
		outs[i] = []int{-7, -7, -7, -7, -7}
	}
}

// behind gives a list in whose memory more stands behind its length, and all of that memory.
func behind(list []int) (short, whole []int) {
	whole = append(slices.Clone(list), 0, 1, -5, 99)
	return whole[:len(list)], whole
}

// lend gives a heap as great as another one, behind all of whose lists more stands, and all of that memory.
func lend(h api.Heap) (lent api.Heap, rows, whole [][]int) {
	for _, outs := range h.Outs {
		short, all := behind(outs)
		rows, whole = append(rows, short), append(whole, all)
	}
	short, all := behind(h.Roots)
	rows, whole = append(rows, to(0, 0, 0, 0, 0), to(-1)), append(whole, all)
	return heap(rows[:len(h.Outs)], short...), rows, whole
}

// The heap that is handed in stays as it was, and what stands behind it, whatever is changed later.
func TestListsAreLeftAlone(t *testing.T) {
	for _, c := range kinds() {
		lent, rows, whole := lend(c.h)
		was := fmt.Sprint(lent, rows, whole)
		m, s := again(lent, nil), storyOf(c.h)
		deeds := append(c.deeds, later()...)
		if got, want := all(m, deeds), all(s, deeds); got != want {
			t.Errorf("%v: with more behind the lengths told %s, want %s", c.h, got, want)
		}
		spoil(m.Heap(), m.Colors())
		if got, want := stands(m), stands(s); got != want {
			t.Errorf("%v: with more behind the lengths stands %s, want %s", c.h, got, want)
		}
		if now := fmt.Sprint(lent, rows, whole); now != was {
			t.Errorf("lists were %s, are %s", was, now)
		}
	}
}

// A heap that is refused stays as it was, too.
func TestRefusedIsLeftAlone(t *testing.T) {
	for _, h := range []api.Heap{
		heap(ring(api.MaxNodes+1), 0),
		heap(bare(2), make([]int, api.MaxNodes+1)...),
		heap(ring(2), 0, 2),
		heap(with(ring(3), 1, 0, 0, 0, 0, 0), 0),
		heap(with(ring(3), 2, 0, -1), 0),
	} {
		lent, rows, whole := lend(h)
		was := fmt.Sprint(lent, rows, whole)
		refused(t, lent, plain.Told(graph.Check(h)))
		if now := fmt.Sprint(lent, rows, whole); now != was {
			t.Errorf("lists were %s, are %s", was, now)
		}
	}
}

// Whatever is written into the lists that were handed in, a mark knows nothing of it.
func TestNoListIsKept(t *testing.T) {
	for _, c := range kinds() {
		lent, rows, whole := lend(c.h)
		m, s := again(lent, c.deeds), storyOf(c.h)
		all(s, c.deeds)
		spoil(lent, nil)
		clear(rows)
		for _, list := range whole {
			clear(list)
		}
		if got, want := stands(m), stands(s); got != want {
			t.Errorf("%v: stands %s, want %s", c.h, got, want)
		}
		if got, want := all(m, later()), all(s, later()); got != want {
			t.Errorf("%v: told %s, want %s", c.h, got, want)
		}
		if got, want := stands(m), stands(s); got != want {
			t.Errorf("%v: stands %s, want %s", c.h, got, want)
		}
	}
}

// Nodes may share one list of pointers, and roots may be a piece of it: to change one node's changes no other one's.
func TestListsMayBeShared(t *testing.T) {
	list := to(0, 1, 2)
	m := again(heap([][]int{list, list, list[:1]}, list[1:]...), []deed{point(0, 0, 2), point(1, 2, 0), point(2, 0, 1)})
	if got, want := stands(m), "[1 1 1] [[2 1 2] [0 1 0] [1]] [1 2]"; got != want {
		t.Errorf("stands %s, want %s", got, want)
	}
	if !slices.Equal(list, to(0, 1, 2)) {
		t.Errorf("the list is %v", list)
	}
}

func TestAnswersAreTheCallers(t *testing.T) {
	for _, c := range kinds() {
		m := again(c.h, c.deeds)
		was, h, of := stands(m), m.Heap(), m.Colors()
		want := fmt.Sprint(h, of)
		spoil(m.Heap(), m.Colors())
		if got := fmt.Sprint(h, of); got != want {
			t.Errorf("%v: two answers share memory: %s, want %s", c.h, got, want)
		}
		if got := stands(m); got != was {
			t.Errorf("%v: an answer is kept: stood %s, stands %s", c.h, was, got)
		}
		unspoiled := again(c.h, c.deeds)
		if got, want := all(m, later()), all(unspoiled, later()); got != want {
			t.Errorf("%v: an answer is kept: told %s, want %s", c.h, got, want)
		}
		if got, want := stands(m), stands(unspoiled); got != want {
			t.Errorf("%v: an answer is kept: stands %s, want %s", c.h, got, want)
		}
	}
}

// No two lists of one answer share memory, not even behind their lengths.
func TestListsAreApart(t *testing.T) {
	for _, c := range kinds() {
		m := again(c.h, c.deeds)
		all := lists(m.Heap(), m.Colors())
		for mark, list := range all {
			for i := range list {
				list[i] = -mark - 1
			}
		}
		for mark, list := range all {
			for _, number := range list {
				if number != -mark-1 {
					t.Fatalf("%v: lists %d and %d share memory", c.h, mark, -number-1)
				}
			}
		}
	}
}

// What was told stays as it was, whatever is done later.
func TestAnswersStay(t *testing.T) {
	for _, c := range kinds() {
		m := again(c.h, c.deeds)
		h, of := m.Heap(), m.Colors()
		want := fmt.Sprint(h, of)
		all(m, later())
		if got := fmt.Sprint(h, of); got != want {
			t.Errorf("%v: told was %s, is %s", c.h, want, got)
		}
	}
}

// Marks of one heap know nothing of each other.
func TestMarksAreApart(t *testing.T) {
	for _, c := range kinds() {
		a, b := again(c.h, c.deeds), again(c.h, c.deeds)
		was, fresh := stands(b), stands(again(c.h, nil))
		all(a, later())
		if got := stands(b); got != was {
			t.Errorf("%v: stood %s, stands %s", c.h, was, got)
		}
		if got := stands(again(c.h, nil)); got != fresh {
			t.Errorf("%v: a new one stands %s, one stood %s", c.h, got, fresh)
		}
	}
}

// To ask how a mark stands changes nothing.
func TestAskingChangesNothing(t *testing.T) {
	for seed := range 50 {
		var deeds []deed
		asked := long(t, seed, func(m *colors.Mark, done deed) {
			stands(m)
			deeds = append(deeds, done)
		})
		if got, want := stands(asked), stands(again(great(seed), deeds)); got != want {
			t.Errorf("seed %d: asked stands %s, unasked %s", seed, got, want)
		}
	}
}
