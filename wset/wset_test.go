package wset_test

import (
	"fmt"
	"math"
	"slices"
	"testing"

	"larderwick/api"
	"larderwick/plain"
	"larderwick/stack"
	"larderwick/wset"
)

// around gives n requests that go around so many pages.
func around(n, pages int) []int {
	reqs := make([]int, n)
	for i := range reqs {
		reqs[i] = i % pages
	}
	return reqs
}

// with gives a copy of a list in which one thing is another.
func with(list []int, at, thing int) []int {
	changed := slices.Clone(list)
	changed[at] = thing
	return changed
}

// same gives a list of n times one thing.
func same(n, thing int) []int {
	return slices.Repeat([]int{thing}, n)
}

func TestSetsAndMiss(t *testing.T) {
	cases := []struct {
		name      string
		reqs      []int
		window    int
		sets      []int
		many, sum int
	}{
		{"nil, no requests", nil, 1, nil, 0, 0},
		{"empty, no requests", []int{}, api.MaxReqs, nil, 0, 0},
		{"one request", []int{5}, 1, []int{32}, 1, 1},
		{"one request, widest window", []int{5}, api.MaxReqs, []int{32}, 1, 1},
		{"page 0 misses at first", []int{0}, 1, []int{1}, 1, 1},
		{"the last page", []int{15}, 3, []int{1 << 15}, 1, 1},
		{"one page again and again", []int{5, 5, 5}, 1, []int{32, 32, 32}, 1, 3},
		{"one page, a wider window", []int{5, 5, 5}, 2, []int{32, 32, 32}, 1, 3},
		{"window 1 sees the last alone", []int{0, 1, 0, 0, 1}, 1, []int{1, 2, 1, 1, 2}, 4, 5},
		{"window 2", []int{0, 1, 0, 0, 2}, 2, []int{1, 3, 3, 1, 5}, 3, 8},
		{"just within the window", []int{0, 1, 2, 0}, 3, []int{1, 3, 7, 7}, 3, 9},
		{"just behind the window", []int{0, 1, 2, 0}, 2, []int{1, 3, 6, 5}, 4, 7},
		{"requests are counted, not pages", []int{0, 1, 1, 1, 0}, 3, []int{1, 3, 3, 2, 3}, 3, 8},
		{"not as slots would", []int{0, 1, 1, 0}, 2, []int{1, 3, 2, 3}, 3, 6},
		{"asked for again stays", []int{0, 0, 1, 2, 0}, 3, []int{1, 1, 3, 7, 7}, 3, 10},
		{"a window as wide as the list", []int{3, 2, 1, 3}, 4, []int{8, 12, 14, 14}, 3, 9},
		{"a window one wider", []int{3, 2, 1, 3}, 5, []int{8, 12, 14, 14}, 3, 9},
		{"both ends", []int{15, 0, 15, 0}, 2, []int{1 << 15, 1<<15 + 1, 1<<15 + 1, 1<<15 + 1}, 2, 7},
		{"MaxReqs, one page", same(api.MaxReqs, 3), api.MaxReqs, same(api.MaxReqs, 8), 1, 40},
		{"MaxReqs, the first again at the end", with(with(same(api.MaxReqs, 3), 0, 2), 39, 2), 39,
			with(same(api.MaxReqs, 12), 0, 4), 2, 79},
		{"MaxReqs, the first again, just too late", with(with(same(api.MaxReqs, 3), 0, 2), 39, 2), 38,
			with(with(same(api.MaxReqs, 12), 0, 4), 38, 8), 3, 78},
	}
	for _, c := range cases {
		t.Run(c.name, func(t *testing.T) {
			if err := wset.Check(c.reqs, c.window); err != nil {
				t.Errorf("Check told %v", err)
			}
			sets, err := wset.Sets(c.reqs, c.window)
			if err != nil || !slices.Equal(sets, c.sets) {
				t.Errorf("Sets: got %v %v, want %v", sets, err, c.sets)
			}
			many, sum, err := wset.Miss(c.reqs, c.window)
			if err != nil || many != c.many || sum != c.sum {
				t.Errorf("Miss: got %d %d %v, want %d %d", many, sum, err, c.many, c.sum)
			}
		})
	}
}

func TestFaults(t *testing.T) {
	full := around(api.MaxReqs, api.MaxPages)
	over := around(api.MaxReqs+1, api.MaxPages)
	cases := []struct {
		name   string
		reqs   []int
		window int
		want   api.Errno
	}{
		{"MaxReqs requests", full, 3, api.OK},
		{"one request more", over, 3, api.ErrFull},
		{"one page, one request more", around(api.MaxReqs+1, 1), 3, api.ErrFull},
		{"far too many", around(1_000, 3), 3, api.ErrFull},
		{"page MaxPages - 1", []int{api.MaxPages - 1}, 1, api.OK},
		{"page MaxPages", []int{api.MaxPages}, 1, api.ErrRange},
		{"page -1", []int{-1}, 1, api.ErrRange},
		{"the least page", []int{math.MinInt}, 1, api.ErrRange},
		{"the greatest page", []int{math.MaxInt}, 1, api.ErrRange},
		{"only the first is no page", with(full, 0, -1), 3, api.ErrRange},
		{"only the middle one is no page", with(full, 20, api.MaxPages), 3, api.ErrRange},
		{"only the last is no page", with(full, api.MaxReqs-1, api.MaxPages), 3, api.ErrRange},
		{"window 1", []int{1, 2}, 1, api.OK},
		{"no window", []int{1, 2}, 0, api.ErrRange},
		{"window below 0", []int{1, 2}, -1, api.ErrRange},
		{"window MaxSlots + 1, as slots do not matter", []int{1, 2}, api.MaxSlots + 1, api.OK},
		{"window MaxReqs", []int{1, 2}, api.MaxReqs, api.OK},
		{"window MaxReqs + 1", []int{1, 2}, api.MaxReqs + 1, api.ErrRange},
		{"MaxReqs requests, window MaxReqs", full, api.MaxReqs, api.OK},
		{"MaxReqs requests, window MaxReqs + 1", full, api.MaxReqs + 1, api.ErrRange},
		{"the least window", []int{1, 2}, math.MinInt, api.ErrRange},
		{"the greatest window", []int{1, 2}, math.MaxInt, api.ErrRange},
		{"no window for no request", nil, 0, api.ErrRange},
		{"too wide a window for no request", nil, api.MaxReqs + 1, api.ErrRange},
		{"too many, and the first is no page", with(over, 0, -1), 3, api.ErrFull},
		{"too many, and the last is no page", with(over, api.MaxReqs, api.MaxPages), 3, api.ErrFull},
		{"too many, and no window", over, 0, api.ErrFull},
		{"too many, and too wide a window", over, api.MaxReqs + 1, api.ErrFull},
		{"too many, no page, no window", with(over, 0, 16), 0, api.ErrFull},
		{"no page, and no window", []int{-1}, 0, api.ErrRange},
	}
	for _, c := range cases {
		t.Run(c.name, func(t *testing.T) {
			if got := plain.Told(wset.Check(c.reqs, c.window)); got != c.want {
				t.Errorf("Check told %v, want %v", got, c.want)
			}
			sets, err := wset.Sets(c.reqs, c.window)
			if got := plain.Told(err); got != c.want {
				t.Errorf("Sets told %v, want %v", got, c.want)
			}
			many, sum, err := wset.Miss(c.reqs, c.window)
			if got := plain.Told(err); got != c.want {
				t.Errorf("Miss told %v, want %v", got, c.want)
			}
			if c.want != api.OK && (len(sets) != 0 || many != 0 || sum != 0) {
				t.Errorf("beside an error told %v, %d, %d", sets, many, sum)
			}
		})
	}
}

// byLast finds what Sets and Miss tell another way: by when each page was asked for last.
func byLast(reqs []int, window int) (sets []int, many, sum int) {
	last := slices.Repeat([]int{-1000}, api.MaxPages)
	for i, page := range reqs {
		if i-last[page] > window {
			many++
		}
		last[page] = i
		set := 0
		for other, at := range last {
			if i-at < window {
				set += 1 << other
				sum++
			}
		}
		sets = append(sets, set)
	}
	return sets, many, sum
}

// compare holds Sets and Miss against byLast.
func compare(t *testing.T, reqs []int, window int) {
	t.Helper()
	wantSets, wantMany, wantSum := byLast(reqs, window)
	sets, err := wset.Sets(reqs, window)
	if err != nil || !slices.Equal(sets, wantSets) {
		t.Fatalf("Sets(%v, %d): got %v %v, want %v", reqs, window, sets, err, wantSets)
	}
	many, sum, err := wset.Miss(reqs, window)
	if err != nil || many != wantMany || sum != wantSum {
		t.Fatalf("Miss(%v, %d): got %d %d %v, want %d %d", reqs, window, many, sum, err, wantMany, wantSum)
	}
}

// lists gives all lists of up to so many of the numbers below a bound.
func lists(most, below int) [][]int {
	all := [][]int{nil}
	for from := 0; most > 0; most-- {
		till := len(all)
		for ; from < till; from++ {
			for thing := range below {
				all = append(all, append(slices.Clone(all[from]), thing))
			}
		}
	}
	return all
}

func TestAllSmall(t *testing.T) {
	for _, reqs := range lists(7, 4) {
		for window := 1; window <= 8; window++ {
			compare(t, reqs, window)
		}
	}
}

// scattered gives requests that jump about, the same ones for the same seed.
func scattered(seed, n, pages int) []int {
	reqs := make([]int, n)
	state := uint64(seed) + 1
	for i := range reqs {
		state = state*6364136223846793005 + 1442695040888963407
		reqs[i] = int(state >> 33 % uint64(pages))
	}
	return reqs
}

func TestLong(t *testing.T) {
	for seed := range 200 {
		reqs := scattered(seed, api.MaxReqs-seed%3, 1+seed%api.MaxPages)
		for window := 1; window <= api.MaxReqs; window++ {
			compare(t, reqs, window)
		}
	}
}

func TestAWiderWindowSeesMore(t *testing.T) {
	for seed := range 200 {
		reqs := scattered(seed, api.MaxReqs, 1+seed%api.MaxPages)
		narrow, _ := wset.Sets(reqs, 1)
		narrowMany, narrowSum, _ := wset.Miss(reqs, 1)
		for window := 2; window <= api.MaxReqs; window++ {
			wide, _ := wset.Sets(reqs, window)
			many, sum, _ := wset.Miss(reqs, window)
			for i := range reqs {
				if narrow[i]&^wide[i] != 0 {
					t.Fatalf("Sets(%v, %d): %b behind request %d, though one narrower sees %b", reqs, window, wide[i], i, narrow[i])
				}
			}
			if many > narrowMany || sum < narrowSum {
				t.Fatalf("Miss(%v, %d): %d %d, though one narrower tells %d %d", reqs, window, many, sum, narrowMany, narrowSum)
			}
			narrow, narrowMany, narrowSum = wide, many, sum
		}
	}
}

// A window of so many requests has no more pages than a store of as many slots, that goes by what was asked for longest ago, which chapter 7 tells of.
func TestAWindowMissesNoLessThanSlots(t *testing.T) {
	for seed := range 200 {
		reqs := scattered(seed, api.MaxReqs, 1+seed%api.MaxPages)
		curve, _ := stack.Curve(reqs)
		for i, missed := range curve {
			many, _, _ := wset.Miss(reqs, i+1)
			if many < missed {
				t.Fatalf("Miss(%v, %d): %d, but slots miss %d", reqs, i+1, many, missed)
			}
		}
	}
}

func TestListsAreLeftAlone(t *testing.T) {
	cases := []struct {
		name   string
		reqs   []int
		window int
	}{
		{"well", []int{9, 3, 1, 9, 3}, 2},
		{"window 1", []int{9, 3, 1, 9}, 1},
		{"widest window", []int{9, 3, 1, 9}, api.MaxReqs},
		{"no request", nil, 3},
		{"MaxReqs requests", around(api.MaxReqs, api.MaxPages), 7},
		{"ErrFull", around(api.MaxReqs+1, 3), 2},
		{"ErrRange by a page", []int{9, 3, 1, 16}, 2},
		{"ErrRange by the window", []int{9, 3, 1}, 0},
	}
	for _, c := range cases {
		t.Run(c.name, func(t *testing.T) {
			whole := append(slices.Clone(c.reqs), 11, 12, 13)
			was := slices.Clone(whole)
			reqs := whole[:len(c.reqs)]
			wset.Check(reqs, c.window)
			wset.Miss(reqs, c.window)
			sets, _ := wset.Sets(reqs, c.window)
			wide := sets[:cap(sets)]
			for i := range wide {
				wide[i] = -7
			}
			if !slices.Equal(whole, was) {
				t.Errorf("the list was %v, is %v", was, whole)
			}
		})
	}
}

func TestBehindTheLengthNothingIsRead(t *testing.T) {
	whole := []int{1, 2, 3, 99, -1}
	for _, c := range []struct {
		reqs      []int
		sets      []int
		many, sum int
	}{
		{whole[:2], []int{2, 6}, 2, 3},
		{whole[:0], nil, 0, 0},
	} {
		sets, err := wset.Sets(c.reqs, 3)
		if err != nil || !slices.Equal(sets, c.sets) {
			t.Errorf("Sets: got %v %v, want %v", sets, err, c.sets)
		}
		many, sum, err := wset.Miss(c.reqs, 3)
		if err != nil || many != c.many || sum != c.sum {
			t.Errorf("Miss: got %d %d %v, want %d %d", many, sum, err, c.many, c.sum)
		}
		if err := wset.Check(c.reqs, 3); err != nil {
			t.Errorf("Check told %v", err)
		}
	}
}

func TestAnswersAreTheCallers(t *testing.T) {
	reqs := []int{3, 1, 3, 0}
	first, _ := wset.Sets(reqs, 2)
	second, _ := wset.Sets(reqs, 2)
	for _, list := range [][]int{first, reqs} {
		for i := range list {
			list[i] = -7
		}
	}
	if want := []int{8, 10, 10, 9}; !slices.Equal(second, want) {
		t.Errorf("an answer shares memory: %v, want %v", second, want)
	}
}

func TestNothingIsKeptBetweenCalls(t *testing.T) {
	reqs := []int{9, 3, 1, 9, 3}
	ask := func() string {
		sets, err := wset.Sets(reqs, 2)
		many, sum, also := wset.Miss(reqs, 2)
		return fmt.Sprint(sets, err, many, sum, also, wset.Check(reqs, 2))
	}
	want := ask()
	for _, other := range [][]int{{4, 9, 3, 7}, {9, 16}, {3, 9, -1}, around(api.MaxReqs+1, 3)} {
		for _, window := range []int{0, 1, 4, api.MaxReqs} {
			wset.Check(other, window)
			wset.Sets(other, window)
			wset.Miss(other, window)
			if got := ask(); got != want {
				t.Errorf("behind %v, %d got %s, want %s", other, window, got, want)
			}
		}
	}
}
