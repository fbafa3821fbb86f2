package fifo_test

import (
	"fmt"
	"math"
	"slices"
	"testing"

	"larderwick/api"
	"larderwick/fifo"
	"larderwick/plain"
	"larderwick/play"
)

// around gives n requests that go around so many pages.
func around(n, pages int) []int {
	reqs := make([]int, n)
	for i := range reqs {
		reqs[i] = i % pages
	}
	return reqs
}

// with gives a copy of a list in which one thing is another.
func with(list []int, at, thing int) []int {
	changed := slices.Clone(list)
	changed[at] = thing
	return changed
}

// marks writes what was told of each request: + if its page was there.
func marks(there []bool) string {
	text := make([]byte, len(there))
	for i, was := range there {
		text[i] = '-'
		if was {
			text[i] = '+'
		}
	}
	return string(text)
}

func TestRun(t *testing.T) {
	cases := []struct {
		name  string
		reqs  []int
		slots int
		there string
		held  []int
	}{
		{"nil, no requests", nil, 1, "", nil},
		{"empty, no requests", []int{}, api.MaxSlots, "", nil},
		{"one page", []int{5}, 1, "-", []int{5}},
		{"one page again and again", []int{5, 5, 5}, 1, "-++", []int{5}},
		{"page 0 is not there at first", []int{0, 0}, 3, "-+", []int{0}},
		{"pages at both ends", []int{15, 0}, 2, "--", []int{15, 0}},
		{"came first first, not rising", []int{9, 2, 7, 4}, 4, "----", []int{9, 2, 7, 4}},
		{"slots are left", []int{9, 2, 9}, 8, "--+", []int{9, 2}},
		{"just as many pages as slots", []int{7, 6, 5, 4, 3, 2, 1, 0, 7, 0}, 8, "--------++", []int{7, 6, 5, 4, 3, 2, 1, 0}},
		{"one slot", []int{1, 2, 1, 1, 2}, 1, "---+-", []int{2}},
		{"who came first goes", []int{1, 2, 3, 2, 1}, 2, "---+-", []int{3, 1}},
		{"who came first goes, though asked for again", []int{1, 2, 1, 3, 2, 1}, 2, "--+-+-", []int{3, 1}},
		{"the first one is asked for again", []int{1, 2, 3, 1, 4, 2}, 3, "---+-+", []int{2, 3, 4}},
		{"the middle one is asked for again", []int{1, 2, 3, 2, 4, 1}, 3, "---+--", []int{3, 4, 1}},
		{"the last one is asked for again", []int{1, 2, 3, 3, 4, 2}, 3, "---+-+", []int{2, 3, 4}},
		{"often asked for, but came first", []int{1, 2, 1, 1, 1, 3, 1}, 2, "--+++--", []int{3, 1}},
		{"who comes again came last", []int{1, 2, 3, 1, 4, 1}, 2, "-----+", []int{1, 4}},
		{"all come and stay", []int{1, 2, 3, 4, 1, 2, 3, 4}, 4, "----++++", []int{1, 2, 3, 4}},
		{"around by one page too many", []int{1, 2, 3, 4, 1, 2, 3, 4}, 3, "--------", []int{2, 3, 4}},
		{"three slots miss nine", []int{1, 2, 3, 4, 1, 2, 5, 1, 2, 3, 4, 5}, 3, "-------++--+", []int{5, 3, 4}},
		{"four slots miss ten of the same", []int{1, 2, 3, 4, 1, 2, 5, 1, 2, 3, 4, 5}, 4, "----++------", []int{2, 3, 4, 5}},
		{"MaxReqs, MaxSlots", around(api.MaxReqs, api.MaxPages), 8, marks(make([]bool, 40)), []int{0, 1, 2, 3, 4, 5, 6, 7}},
		{"MaxReqs, one slot", around(api.MaxReqs, api.MaxPages), 1, marks(make([]bool, 40)), []int{7}},
	}
	for _, c := range cases {
		t.Run(c.name, func(t *testing.T) {
			there, held, err := fifo.Run(c.reqs, c.slots)
			if err != nil || marks(there) != c.there || !slices.Equal(held, c.held) {
				t.Errorf("got %s %v %v, want %s %v", marks(there), held, err, c.there, c.held)
			}
		})
	}
}

func TestRunFaults(t *testing.T) {
	full := around(api.MaxReqs, api.MaxPages)
	over := around(api.MaxReqs+1, api.MaxPages)
	cases := []struct {
		name  string
		reqs  []int
		slots int
		want  api.Errno
	}{
		{"MaxReqs requests", full, 3, api.OK},
		{"one request more", over, 3, api.ErrFull},
		{"page MaxPages - 1", []int{api.MaxPages - 1}, 1, api.OK},
		{"page MaxPages", []int{api.MaxPages}, 1, api.ErrRange},
		{"page -1", []int{-1}, 1, api.ErrRange},
		{"the least page", []int{math.MinInt}, 1, api.ErrRange},
		{"the greatest page", []int{math.MaxInt}, 1, api.ErrRange},
		{"only the first is no page", with(full, 0, -1), 3, api.ErrRange},
		{"only the last is no page", with(full, api.MaxReqs-1, api.MaxPages), 3, api.ErrRange},
		{"MaxSlots slots", []int{1, 2}, api.MaxSlots, api.OK},
		{"no slot", []int{1, 2}, 0, api.ErrRange},
		{"slots below 0", []int{1, 2}, -1, api.ErrRange},
		{"a slot more than MaxSlots", []int{1, 2}, api.MaxSlots + 1, api.ErrRange},
		{"the least slots", []int{1, 2}, math.MinInt, api.ErrRange},
		{"the greatest slots", []int{1, 2}, math.MaxInt, api.ErrRange},
		{"no slot for no request", nil, 0, api.ErrRange},
		{"too many, and one is no page", with(over, 0, -1), 3, api.ErrFull},
		{"too many, and no slot", over, 0, api.ErrFull},
		{"too many, no page, no slot", with(over, 0, 16), 9, api.ErrFull},
		{"no page, and no slot", []int{-1}, 0, api.ErrRange},
	}
	for _, c := range cases {
		t.Run(c.name, func(t *testing.T) {
			there, held, err := fifo.Run(c.reqs, c.slots)
			if got := plain.Told(err); got != c.want {
				t.Errorf("told %v, want %v", got, c.want)
			}
			if c.want != api.OK && (len(there) != 0 || len(held) != 0) {
				t.Errorf("beside an error told %v %v", there, held)
			}
		})
	}
}

// byTimes plays by the time at which each page came, so that no step of it is a step of Run. It also tells what is let go of, one by one.
func byTimes(reqs []int, slots int) (there []bool, held, out []int) {
	came := map[int]int{}
	first := func() int {
		least := -1
		for page, time := range came {
			if least < 0 || time < came[least] {
				least = page
			}
		}
		return least
	}
	for time, page := range reqs {
		_, was := came[page]
		there = append(there, was)
		if was {
			continue
		}
		if len(came) == slots {
			out = append(out, first())
			delete(came, first())
		}
		came[page] = time
	}
	for len(came) > 0 {
		held = append(held, first())
		delete(came, first())
	}
	return there, held, out
}

// missed counts the requests whose page was not there.
func missed(there []bool) int {
	count := 0
	for _, was := range there {
		if !was {
			count++
		}
	}
	return count
}

// compare holds Run against byTimes, and against chapter 1's store that is told the same pages to let go of.
func compare(t *testing.T, reqs []int, slots int) {
	t.Helper()
	there, held, err := fifo.Run(reqs, slots)
	wantThere, wantHeld, out := byTimes(reqs, slots)
	if err != nil || !slices.Equal(there, wantThere) || !slices.Equal(held, wantHeld) {
		t.Fatalf("Run(%v, %d): got %v %v %v, want %v %v", reqs, slots, there, held, err, wantThere, wantHeld)
	}
	count, rising, err := play.Run(reqs, slots, out)
	slices.Sort(held)
	if err != nil || count != missed(there) || !slices.Equal(rising, held) {
		t.Fatalf("Run(%v, %d): missed %d, holds %v; the store told %d %v %v", reqs, slots, missed(there), held, count, rising, err)
	}
}

// lists gives all lists of up to so many of the numbers below a bound.
func lists(most, below int) [][]int {
	all := [][]int{nil}
	for from := 0; most > 0; most-- {
		till := len(all)
		for ; from < till; from++ {
			for thing := range below {
				all = append(all, append(slices.Clone(all[from]), thing))
			}
		}
	}
	return all
}

func TestRunAllSmall(t *testing.T) {
	for _, reqs := range lists(6, 4) {
		for slots := 1; slots <= 4; slots++ {
			compare(t, reqs, slots)
		}
	}
}

// scattered gives requests that jump about, the same ones for the same seed.
func scattered(seed, n, pages int) []int {
	reqs := make([]int, n)
	state := uint64(seed) + 1
	for i := range reqs {
		state = state*6364136223846793005 + 1442695040888963407
		reqs[i] = int(state >> 33 % uint64(pages))
	}
	return reqs
}

func TestRunLong(t *testing.T) {
	for seed := range 200 {
		reqs := scattered(seed, api.MaxReqs, 2+seed%(api.MaxPages-1))
		for slots := 1; slots <= api.MaxSlots; slots++ {
			compare(t, reqs, slots)
		}
	}
}

func TestListsAreLeftAlone(t *testing.T) {
	cases := []struct {
		name  string
		reqs  []int
		slots int
	}{
		{"well", []int{9, 3, 1, 9, 3}, 2},
		{"nothing let go of", []int{9, 3, 1, 9}, 3},
		{"no request", nil, 3},
		{"ErrFull", around(api.MaxReqs+1, 3), 2},
		{"ErrRange", []int{9, 16}, 2},
	}
	for _, c := range cases {
		t.Run(c.name, func(t *testing.T) {
			whole := append(slices.Clone(c.reqs), 11, 12, 13)
			was := slices.Clone(whole)
			there, held, _ := fifo.Run(whole[:len(c.reqs)], c.slots)
			for i := range held {
				held[i] = -7
			}
			_, _ = append(held, -8), append(there, true)
			if !slices.Equal(whole, was) {
				t.Errorf("the list was %v, is %v", was, whole)
			}
		})
	}
}

func TestAnswersAreTheCallers(t *testing.T) {
	reqs := []int{9, 3, 9, 1}
	firstThere, first, _ := fifo.Run(reqs, 2)
	secondThere, second, _ := fifo.Run(reqs, 2)
	for i := range first {
		first[i] = -7
	}
	for i := range firstThere {
		firstThere[i] = true
	}
	for i := range reqs {
		reqs[i] = 0
	}
	if got := fmt.Sprint(marks(secondThere), second); got != "--+-[3 1]" {
		t.Errorf("an answer shares memory: %s", got)
	}
}

func TestNothingIsKeptBetweenCalls(t *testing.T) {
	reqs := []int{9, 3, 1, 9, 3}
	ask := func() string {
		there, held, err := fifo.Run(reqs, 2)
		return fmt.Sprint(there, held, err)
	}
	want := ask()
	fifo.Run([]int{4, 9, 3, 7}, 4)
	fifo.Run([]int{9, 16}, 1)
	fifo.Run([]int{9}, 0)
	if got := ask(); got != want {
		t.Errorf("behind other calls got %s, want %s", got, want)
	}
}
