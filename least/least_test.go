package least_test

import (
	"iter"
	"maps"
	"testing"

	"larderwick/least"
)

// way leads to a place, for a cost.
type way struct{ to, cost int }

// by goes through the ways that a list has.
func by(ways []way) iter.Seq2[int, int] {
	return func(yield func(int, int) bool) {
		for _, w := range ways {
			if !yield(w.to, w.cost) {
				return
			}
		}
	}
}

// steps starts at 0 and takes so many steps by ways from place to place.
func steps(ways map[int][]way, many int) least.Table[int] {
	table := least.Start(0)
	for range many {
		table = table.Step(func(from int) iter.Seq2[int, int] { return by(ways[from]) })
	}
	return table
}

func TestStep(t *testing.T) {
	ways := map[int][]way{
		0: {{1, 5}, {2, 1}, {1, 4}, {1, 7}},
		1: {{3, 1}},
		2: {{3, 9}, {2, 0}},
		3: {{4, -2}},
	}
	for many, want := range []map[int]int{
		{0: 0},
		{1: 4, 2: 1},
		{2: 1, 3: 5},
		{2: 1, 3: 10, 4: 3},
		{2: 1, 3: 10, 4: 8},
	} {
		if got := maps.Collect(steps(ways, many).All()); !maps.Equal(got, want) {
			t.Errorf("behind %d steps got %v, want %v", many, got, want)
		}
	}
}

func TestLeast(t *testing.T) {
	for _, c := range []struct {
		name string
		ways []way
		want int
	}{
		{"no way", nil, 0},
		{"one way", []way{{1, 7}}, 7},
		{"the first is the least", []way{{1, 3}, {2, 7}, {3, 5}}, 3},
		{"the middle one is the least", []way{{1, 7}, {2, 3}, {3, 5}}, 3},
		{"the last is the least", []way{{1, 7}, {2, 5}, {3, 3}}, 3},
		{"for nothing", []way{{1, 7}, {2, 0}}, 0},
		{"below 0", []way{{1, 0}, {2, -4}, {3, 2}}, -4},
		{"one place, the cheaper way first", []way{{1, 3}, {1, 7}}, 3},
		{"one place, the cheaper way last", []way{{1, 7}, {1, 3}}, 3},
	} {
		// A map goes around in one order and another: none of them may be seen.
		for range 20 {
			if got := steps(map[int][]way{0: c.ways}, 1).Least(); got != c.want {
				t.Fatalf("%s: got %d, want %d", c.name, got, c.want)
			}
		}
	}
	if got := least.Start("here").Least(); got != 0 {
		t.Errorf("at the start: got %d, want 0", got)
	}
}

func TestATableStays(t *testing.T) {
	start := least.Start(0)
	first := start.Step(func(int) iter.Seq2[int, int] { return by([]way{{0, 2}, {1, 3}}) })
	first.Step(func(from int) iter.Seq2[int, int] { return by([]way{{from, 1}, {5, 0}}) })
	if got, want := maps.Collect(start.All()), (map[int]int{0: 0}); !maps.Equal(got, want) {
		t.Errorf("the start was %v, is %v", want, got)
	}
	if got, want := maps.Collect(first.All()), (map[int]int{0: 2, 1: 3}); !maps.Equal(got, want) {
		t.Errorf("the table was %v, is %v", want, got)
	}
}

func TestAllMayBeLeft(t *testing.T) {
	table := steps(map[int][]way{0: {{1, 1}, {2, 2}, {3, 3}}}, 1)
	met := 0
	for range table.All() {
		met++
		if met == 2 {
			break
		}
	}
	if met != 2 {
		t.Errorf("met %d states, want 2", met)
	}
}

func TestAStateIsAValue(t *testing.T) {
	table := least.Start([2]int{})
	for range 3 {
		table = table.Step(func(from [2]int) iter.Seq2[[2]int, int] {
			return func(yield func([2]int, int) bool) {
				for i := range from {
					to := from
					to[i]++
					if !yield(to, i+1) {
						return
					}
				}
			}
		})
	}
	want := map[[2]int]int{{3, 0}: 3, {2, 1}: 4, {1, 2}: 5, {0, 3}: 6}
	if got := maps.Collect(table.All()); !maps.Equal(got, want) {
		t.Errorf("got %v, want %v", got, want)
	}
}
