package phase_test

import (
	"fmt"
	"math"
	"slices"
	"testing"

	"larderwick/api"
	"larderwick/clock"
	"larderwick/fifo"
	"larderwick/flush"
	"larderwick/lru"
	"larderwick/opt"
	"larderwick/phase"
	"larderwick/plain"
)

// around gives n requests that go around so many pages.
func around(n, pages int) []int {
	reqs := make([]int, n)
	for i := range reqs {
		reqs[i] = i % pages
	}
	return reqs
}

// with gives a copy of a list in which one thing is another.
func with(list []int, at, thing int) []int {
	changed := slices.Clone(list)
	changed[at] = thing
	return changed
}

// every gives the numbers below a bound that a step divides.
func every(step, below int) []int {
	var list []int
	for i := 0; i < below; i += step {
		list = append(list, i)
	}
	return list
}

func TestStarts(t *testing.T) {
	cases := []struct {
		name  string
		reqs  []int
		slots int
		want  []int
	}{
		{"nil, no requests", nil, 1, nil},
		{"empty, no requests", []int{}, api.MaxSlots, nil},
		{"one request", []int{5}, 1, []int{0}},
		{"one request, many slots", []int{5}, api.MaxSlots, []int{0}},
		{"page 0 begins too", []int{0}, 1, []int{0}},
		{"one page again and again", []int{5, 5, 5}, 1, []int{0}},
		{"page 0 is a page like others", []int{0, 5, 0}, 1, []int{0, 1, 2}},
		{"pages at both ends", []int{15, 0, 15, 0}, 1, []int{0, 1, 2, 3}},
		{"both ends, slots enough", []int{15, 0, 15, 0}, 2, []int{0}},
		{"one slot, each change", []int{1, 1, 2, 2, 2, 1, 3}, 1, []int{0, 2, 5, 6}},
		{"just as many pages as slots", []int{3, 1, 2, 1, 3}, 3, []int{0}},
		{"one page more, at the end", []int{3, 1, 2, 1, 3, 4}, 3, []int{0, 5}},
		{"pages are counted, not requests", []int{1, 2, 1, 2, 1, 2, 3}, 2, []int{0, 6}},
		{"who begins counts in its phase", []int{1, 2, 3, 4, 5}, 2, []int{0, 2, 4}},
		{"the phase ahead counts no more", []int{1, 2, 3, 1, 2}, 2, []int{0, 2, 4}},
		{"who was asked for just ahead counts no more", []int{1, 2, 3, 2, 3, 1}, 2, []int{0, 2, 5}},
		{"who begins is asked for again", []int{1, 2, 3, 3, 3, 4, 3, 5}, 2, []int{0, 2, 7}},
		{"a phase is long, the next one short", []int{1, 1, 1, 1, 2, 3, 4, 4}, 1, []int{0, 4, 5, 6}},
		{"not as a window slides", []int{1, 2, 3, 4, 3, 4, 1, 2}, 3, []int{0, 3, 7}},
		{"MaxSlots pages", around(8, 8), api.MaxSlots, []int{0}},
		{"a page more than MaxSlots", around(9, 9), api.MaxSlots, []int{0, 8}},
		{"MaxReqs, one page", around(api.MaxReqs, 1), 1, []int{0}},
		{"MaxReqs, as many pages as slots", around(api.MaxReqs, 8), 8, []int{0}},
		{"MaxReqs, one slot", around(api.MaxReqs, api.MaxPages), 1, every(1, 40)},
		{"MaxReqs, three slots", around(api.MaxReqs, api.MaxPages), 3, every(3, 40)},
		{"MaxReqs, MaxSlots", around(api.MaxReqs, api.MaxPages), 8, every(8, 40)},
	}
	for _, c := range cases {
		t.Run(c.name, func(t *testing.T) {
			starts, err := phase.Starts(c.reqs, c.slots)
			if err != nil || !slices.Equal(starts, c.want) {
				t.Errorf("got %v %v, want %v", starts, err, c.want)
			}
		})
	}
}

func TestStartsFaults(t *testing.T) {
	full := around(api.MaxReqs, api.MaxPages)
	over := around(api.MaxReqs+1, api.MaxPages)
	cases := []struct {
		name  string
		reqs  []int
		slots int
		want  api.Errno
	}{
		{"MaxReqs requests", full, 3, api.OK},
		{"one request more", over, 3, api.ErrFull},
		{"one page, one request more", around(api.MaxReqs+1, 1), 3, api.ErrFull},
		{"far too many", around(1_000, 3), 3, api.ErrFull},
		{"page MaxPages - 1", []int{api.MaxPages - 1}, 1, api.OK},
		{"page MaxPages", []int{api.MaxPages}, 1, api.ErrRange},
		{"page -1", []int{-1}, 1, api.ErrRange},
		{"the least page", []int{math.MinInt}, 1, api.ErrRange},
		{"the greatest page", []int{math.MaxInt}, 1, api.ErrRange},
		{"only the first is no page", with(full, 0, -1), 3, api.ErrRange},
		{"only the middle one is no page", with(full, 20, api.MaxPages), 3, api.ErrRange},
		{"only the last is no page", with(full, api.MaxReqs-1, api.MaxPages), 3, api.ErrRange},
		{"MaxSlots slots", []int{1, 2}, api.MaxSlots, api.OK},
		{"no slot", []int{1, 2}, 0, api.ErrRange},
		{"slots below 0", []int{1, 2}, -1, api.ErrRange},
		{"a slot more than MaxSlots", []int{1, 2}, api.MaxSlots + 1, api.ErrRange},
		{"the least slots", []int{1, 2}, math.MinInt, api.ErrRange},
		{"the greatest slots", []int{1, 2}, math.MaxInt, api.ErrRange},
		{"no slot for no request", nil, 0, api.ErrRange},
		{"too many slots for no request", nil, api.MaxSlots + 1, api.ErrRange},
		{"too many, and the first is no page", with(over, 0, -1), 3, api.ErrFull},
		{"too many, and the last is no page", with(over, api.MaxReqs, api.MaxPages), 3, api.ErrFull},
		{"too many, and no slot", over, 0, api.ErrFull},
		{"too many, no page, too many slots", with(over, 0, 16), 9, api.ErrFull},
		{"no page, and no slot", []int{-1}, 0, api.ErrRange},
	}
	for _, c := range cases {
		t.Run(c.name, func(t *testing.T) {
			starts, err := phase.Starts(c.reqs, c.slots)
			if got := plain.Told(err); got != c.want {
				t.Errorf("told %v, want %v", got, c.want)
			}
			if c.want != api.OK && len(starts) != 0 {
				t.Errorf("beside an error told %v", starts)
			}
		})
	}
}

// pages counts the different pages of requests.
func pages(reqs []int) int {
	rising := slices.Sorted(slices.Values(reqs))
	return len(slices.Compact(rising))
}

// checkCuts holds the starts against the words of the promise: no phase has more pages than slots, and each would with the request behind it.
func checkCuts(t *testing.T, reqs []int, slots int, starts []int) {
	t.Helper()
	if len(reqs) == 0 {
		if len(starts) != 0 {
			t.Fatalf("Starts of no requests, %d: got %v", slots, starts)
		}
		return
	}
	if len(starts) == 0 || starts[0] != 0 {
		t.Fatalf("Starts(%v, %d): got %v, which does not begin at 0", reqs, slots, starts)
	}
	for i, from := range starts {
		till := len(reqs)
		if i+1 < len(starts) {
			till = starts[i+1]
			if till <= from || till >= len(reqs) || pages(reqs[from:till+1]) <= slots {
				t.Fatalf("Starts(%v, %d): got %v, too early at %d", reqs, slots, starts, till)
			}
		}
		if pages(reqs[from:till]) > slots {
			t.Fatalf("Starts(%v, %d): got %v, too late behind %d", reqs, slots, starts, from)
		}
	}
}

// byFlush finds the starts by chapter 5's store, which is then left with one page that just came.
func byFlush(reqs []int, slots int) []int {
	var starts []int
	for i := range reqs {
		there, held, _ := flush.Run(reqs[:i+1], slots)
		if !there[i] && len(held) == 1 {
			starts = append(starts, i)
		}
	}
	return starts
}

// compare holds Starts against the words of the promise, and against byFlush.
func compare(t *testing.T, reqs []int, slots int) {
	t.Helper()
	starts, err := phase.Starts(reqs, slots)
	if err != nil {
		t.Fatalf("Starts(%v, %d): told %v", reqs, slots, err)
	}
	checkCuts(t, reqs, slots, starts)
	if want := byFlush(reqs, slots); !slices.Equal(starts, want) {
		t.Fatalf("Starts(%v, %d): got %v, want %v", reqs, slots, starts, want)
	}
}

// lists gives all lists of up to so many of the numbers below a bound.
func lists(most, below int) [][]int {
	all := [][]int{nil}
	for from := 0; most > 0; most-- {
		till := len(all)
		for ; from < till; from++ {
			for thing := range below {
				all = append(all, append(slices.Clone(all[from]), thing))
			}
		}
	}
	return all
}

func TestStartsAllSmall(t *testing.T) {
	for _, reqs := range lists(7, 4) {
		for slots := 1; slots <= 4; slots++ {
			compare(t, reqs, slots)
		}
	}
}

// scattered gives requests that jump about, the same ones for the same seed.
func scattered(seed, n, pages int) []int {
	reqs := make([]int, n)
	state := uint64(seed) + 1
	for i := range reqs {
		state = state*6364136223846793005 + 1442695040888963407
		reqs[i] = int(state >> 33 % uint64(pages))
	}
	return reqs
}

func TestStartsLong(t *testing.T) {
	for seed := range 200 {
		reqs := scattered(seed, api.MaxReqs-seed%3, 1+seed%api.MaxPages)
		for slots := 1; slots <= api.MaxSlots; slots++ {
			compare(t, reqs, slots)
		}
	}
}

// missed counts the requests whose page was not there.
func missed(there []bool) int {
	count := 0
	for _, was := range there {
		if !was {
			count++
		}
	}
	return count
}

// missedBy tells how often the stores of chapters 2 to 5 miss.
func missedBy(reqs []int, slots int) map[string]int {
	byLru, _, _ := lru.Run(reqs, slots)
	byFifo, _, _ := fifo.Run(reqs, slots)
	byClock, _, _, _ := clock.Run(reqs, slots)
	byFlush, _, _ := flush.Run(reqs, slots)
	return map[string]int{"lru": missed(byLru), "fifo": missed(byFifo), "clock": missed(byClock), "flush": missed(byFlush)}
}

// In each phase even who knows what comes misses once, and who keeps to the rules of chapters 2 to 5 no more often than there are slots.
func TestPhasesBoundTheStores(t *testing.T) {
	for seed := range 300 {
		reqs := scattered(seed, api.MaxReqs, 1+seed%api.MaxPages)
		for slots := 1; slots <= api.MaxSlots; slots++ {
			starts, _ := phase.Starts(reqs, slots)
			best, _, _, _ := opt.Run(reqs, slots)
			if missed(best) < len(starts) {
				t.Fatalf("Starts(%v, %d): got %v, but it can be done with %d missed", reqs, slots, starts, missed(best))
			}
			for name, count := range missedBy(reqs, slots) {
				if count > len(starts)*slots {
					t.Fatalf("Starts(%v, %d): got %v, but %s misses %d", reqs, slots, starts, name, count)
				}
			}
		}
	}
}

func TestListsAreLeftAlone(t *testing.T) {
	cases := []struct {
		name  string
		reqs  []int
		slots int
	}{
		{"well", []int{9, 3, 1, 9, 3}, 2},
		{"one phase", []int{9, 3, 1, 9}, 3},
		{"a phase a request", []int{9, 3, 1, 9}, 1},
		{"no request", nil, 3},
		{"MaxReqs requests", around(api.MaxReqs, api.MaxPages), 1},
		{"ErrFull", around(api.MaxReqs+1, 3), 2},
		{"ErrRange by a page", []int{9, 3, 1, 16}, 2},
		{"ErrRange by slots", []int{9, 3, 1}, 0},
	}
	for _, c := range cases {
		t.Run(c.name, func(t *testing.T) {
			whole := append(slices.Clone(c.reqs), 11, 12, 13)
			was := slices.Clone(whole)
			starts, _ := phase.Starts(whole[:len(c.reqs)], c.slots)
			wide := starts[:cap(starts)]
			for i := range wide {
				wide[i] = -7
			}
			if !slices.Equal(whole, was) {
				t.Errorf("the list was %v, is %v", was, whole)
			}
		})
	}
}

func TestBehindTheLengthNothingIsRead(t *testing.T) {
	whole := []int{1, 2, 3, 99, -1}
	starts, err := phase.Starts(whole[:2], 1)
	if err != nil || !slices.Equal(starts, []int{0, 1}) {
		t.Errorf("got %v %v, want [0 1]", starts, err)
	}
	starts, err = phase.Starts(whole[:0], 1)
	if err != nil || len(starts) != 0 {
		t.Errorf("got %v %v, want []", starts, err)
	}
}

func TestAnswersAreTheCallers(t *testing.T) {
	reqs := []int{9, 3, 9, 1, 3}
	first, _ := phase.Starts(reqs, 2)
	second, _ := phase.Starts(reqs, 2)
	for _, list := range [][]int{first, reqs} {
		for i := range list {
			list[i] = -7
		}
	}
	if want := []int{0, 3}; !slices.Equal(second, want) {
		t.Errorf("an answer shares memory: %v, want %v", second, want)
	}
}

func TestNothingIsKeptBetweenCalls(t *testing.T) {
	reqs := []int{9, 3, 1, 9, 3}
	ask := func() string {
		starts, err := phase.Starts(reqs, 2)
		return fmt.Sprint(starts, err)
	}
	want := ask()
	for _, other := range [][]int{{4, 9, 3, 7}, {9, 16}, {3, 9, -1}, around(api.MaxReqs+1, 3)} {
		for _, slots := range []int{0, 1, 4} {
			phase.Starts(other, slots)
			if got := ask(); got != want {
				t.Errorf("behind %v, %d got %s, want %s", other, slots, got, want)
			}
		}
	}
}
