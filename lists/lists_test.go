package lists_test

import (
	"cmp"
	"fmt"
	"math"
	"slices"
	"testing"

	"larderwick/api"
	"larderwick/lists"
	"larderwick/plain"
)

// around gives requests, so many, that go around the first things.
func around(many, things int) []int {
	reqs := make([]int, many)
	for i := range reqs {
		reqs[i] = i % things
	}
	return reqs
}

// with gives a copy of a list in which one thing is another.
func with(list []int, at, thing int) []int {
	changed := slices.Clone(list)
	changed[at] = thing
	return changed
}

// same gives a list of so many times one thing.
func same(many, thing int) []int {
	return slices.Repeat([]int{thing}, many)
}

func TestFrontSwapAndLeast(t *testing.T) {
	cases := []struct {
		name      string
		n         int
		reqs      []int
		front     int
		fronted   []int
		swap      int
		swapped   []int
		leastCost int
	}{
		{"nil, no requests, one thing", 1, nil, 0, []int{0}, 0, []int{0}, 0},
		{"empty, no requests, two things", 2, []int{}, 0, []int{0, 1}, 0, []int{0, 1}, 0},
		{"no requests, MaxItems things", api.MaxItems, nil, 0, []int{0, 1, 2, 3}, 0, []int{0, 1, 2, 3}, 0},
		{"one thing", 1, []int{0}, 1, []int{0}, 1, []int{0}, 1},
		{"one thing, again and again", 1, []int{0, 0, 0}, 3, []int{0}, 3, []int{0}, 3},
		{"the first", 4, []int{0}, 1, []int{0, 1, 2, 3}, 1, []int{0, 1, 2, 3}, 1},
		{"the second", 4, []int{1}, 2, []int{1, 0, 2, 3}, 2, []int{1, 0, 2, 3}, 2},
		{"the third", 4, []int{2}, 3, []int{2, 0, 1, 3}, 3, []int{0, 2, 1, 3}, 3},
		{"the last", 4, []int{3}, 4, []int{3, 0, 1, 2}, 4, []int{0, 1, 3, 2}, 4},
		{"the last of two", 2, []int{1}, 2, []int{1, 0}, 2, []int{1, 0}, 2},
		{"the last of three", 3, []int{2}, 3, []int{2, 0, 1}, 3, []int{0, 2, 1}, 3},
		{"the last, again: one free move is enough", 4, []int{3, 3}, 5, []int{3, 0, 1, 2}, 7, []int{0, 3, 1, 2}, 5},
		{"the last, until it is ahead", 4, []int{3, 3, 3, 3}, 7, []int{3, 0, 1, 2}, 10, []int{3, 0, 1, 2}, 7},
		{"the last, then the first: it need not move", 4, []int{3, 0}, 6, []int{0, 3, 1, 2}, 5, []int{0, 1, 3, 2}, 5},
		{"by turns, the last and the first", 3, []int{2, 0, 2, 0, 2}, 11, []int{2, 0, 1}, 10, []int{2, 0, 1}, 9},
		{"from the end on", 4, []int{3, 2, 1, 0}, 16, []int{0, 1, 2, 3}, 12, []int{0, 1, 2, 3}, 10},
		{"in order", 4, []int{0, 1, 2, 3}, 10, []int{3, 2, 1, 0}, 10, []int{1, 2, 3, 0}, 10},
		{"by turns: neither goes on", 2, []int{1, 0, 1, 0}, 8, []int{0, 1}, 8, []int{0, 1}, 6},
		{"by turns, the last two: both stay behind if they only swap", 4, []int{3, 2, 3, 2}, 12, []int{2, 3, 0, 1}, 16, []int{0, 1, 2, 3}, 10},
		{"changes that are paid for are better than all that are free", 3, []int{2, 1, 1, 2}, 9, []int{2, 1, 0}, 11, []int{1, 2, 0}, 8},
		{"MaxReqs, one thing", 1, around(api.MaxReqs, 1), 40, []int{0}, 40, []int{0}, 40},
		{"MaxReqs, the last thing", 4, same(api.MaxReqs, 3), 43, []int{3, 0, 1, 2}, 46, []int{3, 0, 1, 2}, 43},
		{"MaxReqs, around", 4, around(api.MaxReqs, 4), 154, []int{3, 2, 1, 0}, 117, []int{2, 1, 3, 0}, 100},
	}
	for _, c := range cases {
		t.Run(c.name, func(t *testing.T) {
			if err := lists.Check(c.n, c.reqs); err != nil {
				t.Errorf("Check told %v", err)
			}
			paid, list, err := lists.Front(c.n, c.reqs)
			if err != nil || paid != c.front || !slices.Equal(list, c.fronted) {
				t.Errorf("Front: got %d %v %v, want %d %v", paid, list, err, c.front, c.fronted)
			}
			paid, list, err = lists.Swap(c.n, c.reqs)
			if err != nil || paid != c.swap || !slices.Equal(list, c.swapped) {
				t.Errorf("Swap: got %d %v %v, want %d %v", paid, list, err, c.swap, c.swapped)
			}
			paid, err = lists.Least(c.n, c.reqs)
			if err != nil || paid != c.leastCost {
				t.Errorf("Least: got %d %v, want %d", paid, err, c.leastCost)
			}
		})
	}
}

func TestFaults(t *testing.T) {
	full := around(api.MaxReqs, api.MaxItems)
	over := around(api.MaxReqs+1, api.MaxItems)
	cases := []struct {
		name string
		n    int
		reqs []int
		want api.Errno
	}{
		{"MaxReqs requests", 4, full, api.OK},
		{"one request more", 4, over, api.ErrFull},
		{"one request more, of one thing", 1, same(api.MaxReqs+1, 0), api.ErrFull},
		{"far too many requests", 4, around(1_000, 4), api.ErrFull},
		{"one thing", 1, []int{0}, api.OK},
		{"MaxItems things", api.MaxItems, []int{0}, api.OK},
		{"no thing", 0, []int{0}, api.ErrRange},
		{"no thing, no request", 0, nil, api.ErrRange},
		{"things below 0", -1, []int{0}, api.ErrRange},
		{"things below 0, no request", -1, nil, api.ErrRange},
		{"a thing more than MaxItems", api.MaxItems + 1, []int{0}, api.ErrRange},
		{"a thing more than MaxItems, no request", api.MaxItems + 1, nil, api.ErrRange},
		{"a thing more than MaxItems, and asked for", api.MaxItems + 1, []int{api.MaxItems}, api.ErrRange},
		{"the fewest things", math.MinInt, []int{0}, api.ErrRange},
		{"the most things", math.MaxInt, []int{0}, api.ErrRange},
		{"the last thing", 4, []int{3}, api.OK},
		{"one behind the last thing", 4, []int{4}, api.ErrRange},
		{"the last thing of three", 3, []int{2}, api.OK},
		{"one behind the last thing of three", 3, []int{3}, api.ErrRange},
		{"one behind the last thing of one", 1, []int{1}, api.ErrRange},
		{"request -1", 4, []int{-1}, api.ErrRange},
		{"the least request", 4, []int{math.MinInt}, api.ErrRange},
		{"the greatest request", 4, []int{math.MaxInt}, api.ErrRange},
		{"only the first is no thing", 4, with(full, 0, -1), api.ErrRange},
		{"only the middle one is no thing", 4, with(full, 20, 4), api.ErrRange},
		{"only the last is no thing", 4, with(full, api.MaxReqs-1, 4), api.ErrRange},
		{"too many requests, and no thing", 0, over, api.ErrFull},
		{"too many requests, and too many things", 5, over, api.ErrFull},
		{"too many requests, and the first is no thing", 4, with(over, 0, -1), api.ErrFull},
		{"too many requests, and the last is no thing", 4, with(over, api.MaxReqs, 4), api.ErrFull},
		{"too many requests, and all else is wrong", -1, with(over, 0, -1), api.ErrFull},
		{"no thing, and a request is none", 0, []int{-1}, api.ErrRange},
	}
	for _, c := range cases {
		t.Run(c.name, func(t *testing.T) {
			if got := plain.Told(lists.Check(c.n, c.reqs)); got != c.want {
				t.Errorf("Check told %v, want %v", got, c.want)
			}
			front, fronted, err := lists.Front(c.n, c.reqs)
			if got := plain.Told(err); got != c.want {
				t.Errorf("Front told %v, want %v", got, c.want)
			}
			swap, swapped, err := lists.Swap(c.n, c.reqs)
			if got := plain.Told(err); got != c.want {
				t.Errorf("Swap told %v, want %v", got, c.want)
			}
			least, err := lists.Least(c.n, c.reqs)
			if got := plain.Told(err); got != c.want {
				t.Errorf("Least told %v, want %v", got, c.want)
			}
			if c.want != api.OK && (front != 0 || len(fronted) != 0 || swap != 0 || len(swapped) != 0 || least != 0) {
				t.Errorf("beside an error told %d %v, %d %v, %d", front, fronted, swap, swapped, least)
			}
		})
	}
}

// byTimes moves nothing: it notes when each thing was looked for last. A thing is ahead of another, if it was looked for later; of those that never were, if it is less.
func byTimes(n int, reqs []int) (paid int, list []int) {
	times := make([]int, n)
	ahead := func(a, b int) int {
		return cmp.Or(cmp.Compare(times[b], times[a]), cmp.Compare(a, b))
	}
	for i, thing := range reqs {
		for other := range n {
			if ahead(other, thing) <= 0 {
				paid++
			}
		}
		times[thing] = i + 1
	}
	for thing := range n {
		list = append(list, thing)
	}
	slices.SortFunc(list, ahead)
	return paid, list
}

// byPlaces has the place of each thing, not a list: whoever has the place ahead of one that was found gets its place.
func byPlaces(n int, reqs []int) (paid int, list []int) {
	places := make([]int, n)
	for thing := range places {
		places[thing] = thing
	}
	for _, thing := range reqs {
		mine := places[thing]
		paid += mine + 1
		for other, place := range places {
			if place == mine-1 {
				places[other], places[thing] = mine, place
			}
		}
	}
	list = make([]int, n)
	for thing, place := range places {
		list[place] = thing
	}
	return paid, list
}

// orders gives all orders of n things, the one that rises first.
func orders(n int) [][]int {
	all := [][]int{nil}
	for range n {
		var longer [][]int
		for _, order := range all {
			for thing := range n {
				if !slices.Contains(order, thing) {
					longer = append(longer, append(slices.Clone(order), thing))
				}
			}
		}
		all = longer
	}
	return all
}

// apart counts the pairs of things that stand one way around in one order, and the other in another: as many changes of neighbours lead from one to the other.
func apart(a, b []int) int {
	pairs := 0
	for i, one := range a {
		for _, other := range a[i+1:] {
			if slices.Index(b, one) > slices.Index(b, other) {
				pairs++
			}
		}
	}
	return pairs
}

// movedOn tells whether one order comes of another, if a thing is moved forward, or stays.
func movedOn(from, to []int, thing int) bool {
	others := func(list []int) []int {
		return slices.DeleteFunc(slices.Clone(list), func(other int) bool { return other == thing })
	}
	return slices.Index(to, thing) <= slices.Index(from, thing) && slices.Equal(others(from), others(to))
}

// search knows all orders of n things, how far they are apart, and which comes of which, if a thing is moved forward.
type search struct {
	all   [][]int
	apart [][]int
	moved map[[3]int]bool // from, to, thing
}

func newSearch(n int) search {
	s := search{orders(n), nil, map[[3]int]bool{}}
	for i, from := range s.all {
		s.apart = append(s.apart, nil)
		for j, to := range s.all {
			s.apart[i] = append(s.apart[i], apart(from, to))
			for thing := range n {
				if movedOn(from, to, thing) {
					s.moved[[3]int{i, j, thing}] = true
				}
			}
		}
	}
	return s
}

// fromTheEnd finds the least cost from the last request back to the first: of each order what all requests from one on cost, with whichever order is taken ahead of looking, and whichever behind.
func (s search) fromTheEnd(reqs []int) int {
	ahead := make([]int, len(s.all))
	for _, thing := range slices.Backward(reqs) {
		looked := make([]int, len(s.all))
		for i, order := range s.all {
			best := math.MaxInt
			for j := range s.all {
				if s.moved[[3]int{i, j, thing}] {
					best = min(best, ahead[j])
				}
			}
			looked[i] = slices.Index(order, thing) + 1 + best
		}
		now := make([]int, len(s.all))
		for i := range s.all {
			now[i] = math.MaxInt
			for j := range s.all {
				now[i] = min(now[i], s.apart[i][j]+looked[j])
			}
		}
		ahead = now
	}
	return ahead[0]
}

// searches gives one search for each number of things; none at 0.
func searches() []search {
	all := []search{{}}
	for n := 1; n <= api.MaxItems; n++ {
		all = append(all, newSearch(n))
	}
	return all
}

// compare holds Front against byTimes, Swap against byPlaces, and Least against fromTheEnd.
func compare(t *testing.T, s search, n int, reqs []int) {
	t.Helper()
	wantPaid, wantList := byTimes(n, reqs)
	paid, list, err := lists.Front(n, reqs)
	if err != nil || paid != wantPaid || !slices.Equal(list, wantList) {
		t.Fatalf("Front(%d, %v): got %d %v %v, want %d %v", n, reqs, paid, list, err, wantPaid, wantList)
	}
	wantPaid, wantList = byPlaces(n, reqs)
	paid, list, err = lists.Swap(n, reqs)
	if err != nil || paid != wantPaid || !slices.Equal(list, wantList) {
		t.Fatalf("Swap(%d, %v): got %d %v %v, want %d %v", n, reqs, paid, list, err, wantPaid, wantList)
	}
	least, err := lists.Least(n, reqs)
	if want := s.fromTheEnd(reqs); err != nil || least != want {
		t.Fatalf("Least(%d, %v): got %d %v, want %d", n, reqs, least, err, want)
	}
}

// requests gives all lists of up to so many of the numbers below a bound.
func requests(most, below int) [][]int {
	all := [][]int{nil}
	for from := 0; most > 0; most-- {
		till := len(all)
		for ; from < till; from++ {
			for thing := range below {
				all = append(all, append(slices.Clone(all[from]), thing))
			}
		}
	}
	return all
}

func TestAllSmall(t *testing.T) {
	all := searches()
	for n, most := range []int{0, 5, 8, 6, 4} {
		if n == 0 {
			continue
		}
		for _, reqs := range requests(most, n) {
			compare(t, all[n], n, reqs)
		}
	}
}

// scattered gives numbers that jump about below a bound, the same ones for the same seed.
func scattered(seed, many, below int) []int {
	list := make([]int, many)
	state := uint64(seed) + 1
	for i := range list {
		state = state*6364136223846793005 + 1442695040888963407
		list[i] = int(state >> 33 % uint64(below))
	}
	return list
}

// long gives a number of things, and requests, as many as there may be or some fewer: of some seeds they jump about, of others most are as the one before, or of the last things.
func long(seed int) (n int, reqs []int) {
	n = 1 + seed%api.MaxItems
	reqs = scattered(seed, api.MaxReqs-seed%3, n)
	often := scattered(seed+1_000, len(reqs), 3)
	for i := range reqs {
		switch {
		case seed/4%3 == 1 && i > 0 && often[i] > 0:
			reqs[i] = reqs[i-1]
		case seed/4%3 == 2 && often[i] > 0:
			reqs[i] = n - 1 - reqs[i]/2
		}
	}
	return n, reqs
}

func TestLong(t *testing.T) {
	all := searches()
	for seed := range 240 {
		n, reqs := long(seed)
		compare(t, all[n], n, reqs)
	}
}

// To move to the front costs no more than twice the least, less 1 for each looking; and nobody costs less than the least, nor than to leave the list as it is at first.
func TestFrontIsNotMuchWorse(t *testing.T) {
	for seed := range 240 {
		n, reqs := long(seed)
		front, _, _ := lists.Front(n, reqs)
		swap, _, _ := lists.Swap(n, reqs)
		least, _ := lists.Least(n, reqs)
		left := len(reqs)
		for _, thing := range reqs {
			left += thing
		}
		if least > front || least > swap || least > left || front > 2*least-len(reqs) {
			t.Fatalf("%d, %v: the least is %d, to the front %d, by swaps %d, left alone %d", n, reqs, least, front, swap, left)
		}
	}
}

// Things that nobody asks for, behind all others, cost nothing and stay where they are.
func TestMoreThingsBehindChangeNothing(t *testing.T) {
	for seed := range 120 {
		n, reqs := long(seed)
		for more := n + 1; more <= api.MaxItems; more++ {
			front, fronted, _ := lists.Front(n, reqs)
			swap, swapped, _ := lists.Swap(n, reqs)
			least, _ := lists.Least(n, reqs)
			for thing := n; thing < more; thing++ {
				fronted, swapped = append(fronted, thing), append(swapped, thing)
			}
			want := fmt.Sprintf("<nil> %d %v <nil> %d %v <nil> %d <nil>", front, fronted, swap, swapped, least)
			if got := answers(more, reqs); got != want {
				t.Fatalf("%d, %v: got %s, want %s", more, reqs, got, want)
			}
		}
	}
}

// answers writes what all calls answer.
func answers(n int, reqs []int) string {
	check := lists.Check(n, reqs)
	front, fronted, first := lists.Front(n, reqs)
	swap, swapped, second := lists.Swap(n, reqs)
	least, third := lists.Least(n, reqs)
	return fmt.Sprintf("%v %d %v %v %d %v %v %d %v", check, front, fronted, first, swap, swapped, second, least, third)
}

func TestListsAreLeftAlone(t *testing.T) {
	cases := []struct {
		name string
		n    int
		reqs []int
	}{
		{"well", 3, []int{2, 0, 1, 2, 0}},
		{"one thing", 1, []int{0, 0}},
		{"as many requests as things", 4, []int{3, 1, 2, 0}},
		{"no request", 4, nil},
		{"MaxReqs requests", 4, around(api.MaxReqs, 4)},
		{"ErrFull", 4, around(api.MaxReqs+1, 4)},
		{"ErrRange by things", 0, []int{2, 0, 1}},
		{"ErrRange by a request", 3, []int{2, 0, 3}},
	}
	for _, c := range cases {
		t.Run(c.name, func(t *testing.T) {
			whole := append(slices.Clone(c.reqs), 11, 12, 13)
			was := slices.Clone(whole)
			reqs := whole[:len(c.reqs)]
			lists.Check(c.n, reqs)
			lists.Least(c.n, reqs)
			_, fronted, _ := lists.Front(c.n, reqs)
			_, swapped, _ := lists.Swap(c.n, reqs)
			for _, list := range [][]int{fronted[:cap(fronted)], swapped[:cap(swapped)]} {
				for i := range list {
					list[i] = -7
				}
			}
			if !slices.Equal(whole, was) {
				t.Errorf("the list was %v, is %v", was, whole)
			}
		})
	}
}

func TestBehindTheLengthNothingIsRead(t *testing.T) {
	reqs := []int{2, 0, 2, 99, -1}
	for _, c := range []struct {
		n, many int
		want    string
	}{
		{3, 3, "<nil> 7 [2 0 1] <nil> 6 [2 0 1] <nil> 6 <nil>"},
		{3, 1, "<nil> 3 [2 0 1] <nil> 3 [0 2 1] <nil> 3 <nil>"},
		{3, 0, "<nil> 0 [0 1 2] <nil> 0 [0 1 2] <nil> 0 <nil>"},
		{2, 1, "ErrRange 0 [] ErrRange 0 [] ErrRange 0 ErrRange"},
	} {
		if got := answers(c.n, reqs[:c.many]); got != c.want {
			t.Errorf("%d, %v: got %s, want %s", c.n, reqs[:c.many], got, c.want)
		}
	}
}

func TestAnswersAreTheCallers(t *testing.T) {
	for _, ask := range []func(int, []int) (int, []int, error){lists.Front, lists.Swap} {
		for n := 1; n <= api.MaxItems; n++ {
			reqs := around(7, n)
			_, other, _ := ask(n, reqs)
			_, list, _ := ask(n, reqs)
			want := slices.Clone(list)
			for _, written := range [][]int{other[:cap(other)], reqs} {
				for i := range written {
					written[i] = -7
				}
			}
			if !slices.Equal(list, want) {
				t.Errorf("an answer shares memory: %v, want %v", list, want)
			}
			if _, again, _ := ask(n, around(7, n)); !slices.Equal(again, want) {
				t.Errorf("an answer is kept: %v, want %v", again, want)
			}
		}
	}
}

func TestNothingIsKeptBetweenCalls(t *testing.T) {
	reqs := []int{2, 0, 1, 2, 0}
	want := answers(3, reqs)
	for _, other := range [][]int{{0, 1, 0}, {3, 3}, {-1, 0}, around(api.MaxReqs+1, 3)} {
		for n := -1; n <= api.MaxItems+1; n++ {
			answers(n, other)
			if got := answers(3, reqs); got != want {
				t.Errorf("behind %d, %v got %s, want %s", n, other, got, want)
			}
		}
	}
}
