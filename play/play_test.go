package play_test

import (
	"fmt"
	"math"
	"slices"
	"testing"

	"larderwick/api"
	"larderwick/plain"
	"larderwick/play"
)

// around gives n requests that go around so many pages.
func around(n, pages int) []int {
	reqs := make([]int, n)
	for i := range reqs {
		reqs[i] = i % pages
	}
	return reqs
}

// with gives a copy of a list in which one thing is another.
func with(list []int, at, thing int) []int {
	changed := slices.Clone(list)
	changed[at] = thing
	return changed
}

func TestCheck(t *testing.T) {
	full := around(api.MaxReqs, api.MaxPages)
	over := around(api.MaxReqs+1, api.MaxPages)
	cases := []struct {
		name  string
		reqs  []int
		slots int
		want  api.Errno
	}{
		{"ordinary", []int{3, 1, 4, 1, 5}, 3, api.OK},
		{"nil, no requests", nil, 1, api.OK},
		{"empty, no requests", []int{}, 1, api.OK},
		{"MaxReqs requests", full, 3, api.OK},
		{"one request more", over, 3, api.ErrFull},
		{"page 0", []int{0}, 1, api.OK},
		{"page MaxPages - 1", []int{api.MaxPages - 1}, 1, api.OK},
		{"page MaxPages", []int{api.MaxPages}, 1, api.ErrRange},
		{"page -1", []int{-1}, 1, api.ErrRange},
		{"the least page", []int{math.MinInt}, 1, api.ErrRange},
		{"the greatest page", []int{math.MaxInt}, 1, api.ErrRange},
		{"only the first is no page", with(full, 0, -1), 3, api.ErrRange},
		{"only the last is no page", with(full, api.MaxReqs-1, api.MaxPages), 3, api.ErrRange},
		{"one slot", []int{1, 2}, 1, api.OK},
		{"MaxSlots slots", []int{1, 2}, api.MaxSlots, api.OK},
		{"no slot", []int{1, 2}, 0, api.ErrRange},
		{"slots below 0", []int{1, 2}, -1, api.ErrRange},
		{"a slot more than MaxSlots", []int{1, 2}, api.MaxSlots + 1, api.ErrRange},
		{"the least slots", []int{1, 2}, math.MinInt, api.ErrRange},
		{"the greatest slots", []int{1, 2}, math.MaxInt, api.ErrRange},
		{"no slot for no request", nil, 0, api.ErrRange},
		{"too many, and one is no page", with(over, 0, -1), 3, api.ErrFull},
		{"too many, and no slot", over, 0, api.ErrFull},
		{"no page, and no slot", []int{-1}, 0, api.ErrRange},
	}
	for _, c := range cases {
		t.Run(c.name, func(t *testing.T) {
			if got := plain.Told(play.Check(c.reqs, c.slots)); got != c.want {
				t.Errorf("Check told %v, want %v", got, c.want)
			}
			missed, held, err := play.Run(c.reqs, c.slots, fitting(c.reqs, c.slots))
			if got := plain.Told(err); got != c.want {
				t.Errorf("Run told %v, want %v", got, c.want)
			}
			if c.want != api.OK && (missed != 0 || len(held) != 0) {
				t.Errorf("beside an error Run told %d %v", missed, held)
			}
		})
	}
}

// fitting tells what to let go of, so that nothing but Check can refuse: always the page that came first.
func fitting(reqs []int, slots int) []int {
	var held, out []int
	for _, page := range reqs {
		if slices.Contains(held, page) {
			continue
		}
		if len(held) > 0 && len(held) >= slots {
			out = append(out, held[0])
			held = held[1:]
		}
		held = append(held, page)
	}
	return out
}

func TestRun(t *testing.T) {
	around16 := around(api.MaxReqs, api.MaxPages)
	cases := []struct {
		name   string
		reqs   []int
		slots  int
		out    []int
		missed int
		held   []int
	}{
		{"nil, no requests", nil, 1, nil, 0, nil},
		{"empty lists", []int{}, api.MaxSlots, []int{}, 0, nil},
		{"no requests, out is left", nil, 2, []int{7, -1}, 0, nil},
		{"one page", []int{5}, 1, nil, 1, []int{5}},
		{"one page again and again", []int{5, 5, 5}, 1, nil, 1, []int{5}},
		{"page 0 is not there at first", []int{0, 0}, 1, nil, 1, []int{0}},
		{"pages at both ends", []int{15, 0}, 2, nil, 2, []int{0, 15}},
		{"rising, not as they came", []int{9, 2, 7, 4}, 4, nil, 4, []int{2, 4, 7, 9}},
		{"just as many pages as slots", []int{7, 6, 5, 4, 3, 2, 1, 0, 7, 0}, 8, nil, 8, []int{0, 1, 2, 3, 4, 5, 6, 7}},
		{"one slot", []int{1, 2, 1}, 1, []int{1, 2}, 3, []int{1}},
		{"the first one goes", []int{1, 2, 3}, 2, []int{1}, 3, []int{2, 3}},
		{"the last one goes", []int{1, 2, 3}, 2, []int{2}, 3, []int{1, 3}},
		{"the middle one goes", []int{1, 2, 3, 4}, 3, []int{2}, 4, []int{1, 3, 4}},
		{"who goes may come again", []int{1, 2, 3, 1}, 2, []int{1, 2}, 4, []int{1, 3}},
		{"who stays is there", []int{1, 2, 3, 1}, 2, []int{2, 1}, 3, []int{1, 3}},
		{"only where there is no slot is one let go of", []int{1, 1, 2, 2, 3, 3}, 2, []int{1}, 3, []int{2, 3}},
		{"one page twice in out", []int{1, 2, 3, 1, 2}, 2, []int{1, 3, 1}, 4, []int{1, 2}},
		{"what is left of out is no matter", []int{1, 2, 3}, 2, []int{1, 1, -5, 99, math.MaxInt, math.MinInt}, 3, []int{2, 3}},
		{"nothing is let go of, out is bad", []int{1, 2}, 2, []int{99}, 2, []int{1, 2}},
		{"MaxReqs, MaxSlots", around16, 8, fitting(around16, 8), 40, []int{0, 1, 2, 3, 4, 5, 6, 7}},
		{"MaxReqs, one slot", around16, 1, fitting(around16, 1), 40, []int{7}},
	}
	for _, c := range cases {
		t.Run(c.name, func(t *testing.T) {
			missed, held, err := play.Run(c.reqs, c.slots, c.out)
			if err != nil || missed != c.missed || !slices.Equal(held, c.held) {
				t.Errorf("got %d %v %v, want %d %v", missed, held, err, c.missed, c.held)
			}
		})
	}
}

func TestRunFaults(t *testing.T) {
	over := around(api.MaxReqs+1, 3)
	cases := []struct {
		name  string
		reqs  []int
		slots int
		out   []int
		want  api.Errno
	}{
		{"out is nil", []int{1, 2}, 1, nil, api.ErrShape},
		{"out is empty", []int{1, 2}, 1, []int{}, api.ErrShape},
		{"out ends too early", []int{1, 2, 3}, 1, []int{1}, api.ErrShape},
		{"out ends ahead of the last of MaxReqs", around(api.MaxReqs, 2), 1, around(api.MaxReqs-2, 2), api.ErrShape},
		{"behind out's length stands a page", []int{1, 2}, 1, []int{1}[:0], api.ErrShape},
		{"never there", []int{1, 2}, 1, []int{3}, api.ErrNone},
		{"not there yet", []int{1, 2}, 1, []int{2}, api.ErrNone},
		{"there no more", []int{1, 2, 3}, 1, []int{1, 1}, api.ErrNone},
		{"page 0 is in no empty slot", []int{1, 2}, 1, []int{0}, api.ErrNone},
		{"below all pages", []int{1, 2}, 1, []int{-1}, api.ErrNone},
		{"above all pages", []int{1, 2}, 1, []int{api.MaxPages}, api.ErrNone},
		{"the least number", []int{1, 2}, 1, []int{math.MinInt}, api.ErrNone},
		{"the greatest number", []int{1, 2}, 1, []int{math.MaxInt}, api.ErrNone},
		{"the first fault is told, out ends later", []int{1, 2, 3}, 1, []int{7}, api.ErrNone},
		{"only the next page counts", []int{1, 2}, 1, []int{7, 1}, api.ErrNone},
		{"a later request is no page, out ends ahead", []int{1, 2, 16}, 1, nil, api.ErrRange},
		{"a later request is no page, out is not there", []int{1, 2, -1}, 1, []int{7}, api.ErrRange},
		{"no slot, out is empty", []int{1, 2}, 0, nil, api.ErrRange},
		{"too many, out is empty", over, 1, nil, api.ErrFull},
		{"too many, out is not there", over, 1, []int{7}, api.ErrFull},
		{"too many, no page, no slot, out is empty", with(over, 1, 16), 0, nil, api.ErrFull},
	}
	for _, c := range cases {
		t.Run(c.name, func(t *testing.T) {
			missed, held, err := play.Run(c.reqs, c.slots, c.out)
			if plain.Told(err) != c.want || missed != 0 || len(held) != 0 {
				t.Errorf("got %d %v %v, want 0 [] %v", missed, held, err, c.want)
			}
		})
	}
}

// byBits plays by sets of bits, so that no step of it is a step of Run.
func byBits(reqs []int, slots int, out []int) (int, []int, api.Errno) {
	held, free, missed, next := 0, slots, 0, 0
	for _, page := range reqs {
		if held>>page&1 == 1 {
			continue
		}
		missed++
		if free > 0 {
			free--
		} else if next == len(out) {
			return 0, nil, api.ErrShape
		} else if held>>out[next]&1 == 0 {
			return 0, nil, api.ErrNone
		} else {
			held &^= 1 << out[next]
			next++
		}
		held |= 1 << page
	}
	var there []int
	for page := range api.MaxPages {
		if held>>page&1 == 1 {
			there = append(there, page)
		}
	}
	return missed, there, api.OK
}

// lists gives all lists of up to so many of the numbers below a bound.
func lists(most, below int) [][]int {
	all := [][]int{nil}
	for from := 0; most > 0; most-- {
		till := len(all)
		for ; from < till; from++ {
			for thing := range below {
				all = append(all, append(slices.Clone(all[from]), thing))
			}
		}
	}
	return all
}

func TestRunAllSmall(t *testing.T) {
	outs := lists(3, 3)
	for _, reqs := range lists(6, 3) {
		for slots := 1; slots <= 3; slots++ {
			for _, out := range outs {
				missed, held, err := play.Run(reqs, slots, out)
				wantMissed, wantHeld, want := byBits(reqs, slots, out)
				if missed != wantMissed || !slices.Equal(held, wantHeld) || plain.Told(err) != want {
					t.Fatalf("Run(%v, %d, %v): got %d %v %v, want %d %v %v",
						reqs, slots, out, missed, held, err, wantMissed, wantHeld, want)
				}
			}
		}
	}
}

// behind gives a list in whose memory more stands behind its length, and all of that memory.
func behind(list ...int) (short, whole []int) {
	whole = append(slices.Clone(list), 11, 12, 13)
	return whole[:len(list)], whole
}

func TestListsAreLeftAlone(t *testing.T) {
	cases := []struct {
		name      string
		reqs, out []int
		slots     int
	}{
		{"well", []int{9, 3, 1, 9, 3}, []int{3, 9, 1, 8}, 2},
		{"nothing let go of", []int{9, 3, 1}, []int{3}, 3},
		{"no request", nil, []int{3}, 3},
		{"ErrRange", []int{9, 16}, []int{3}, 2},
		{"ErrShape", []int{9, 3, 1}, nil, 2},
		{"ErrNone", []int{9, 3, 1, 5}, []int{9, 9}, 2},
	}
	for _, c := range cases {
		t.Run(c.name, func(t *testing.T) {
			reqs, wholeReqs := behind(c.reqs...)
			out, wholeOut := behind(c.out...)
			was := fmt.Sprint(wholeReqs, wholeOut)
			play.Check(reqs, c.slots)
			_, held, _ := play.Run(reqs, c.slots, out)
			for i := range held {
				held[i] = -7
			}
			_ = append(held, -8)
			if now := fmt.Sprint(wholeReqs, wholeOut); now != was {
				t.Errorf("lists were %s, are %s", was, now)
			}
		})
	}
}

func TestAnswersAreTheCallers(t *testing.T) {
	reqs, out := []int{9, 3, 1, 9, 3}, []int{3, 9, 1}
	_, first, _ := play.Run(reqs, 2, out)
	_, second, _ := play.Run(reqs, 2, out)
	want := []int{1, 3}
	first[0], first[1] = -7, -7
	if !slices.Equal(second, want) {
		t.Errorf("two answers share memory: %v, want %v", second, want)
	}
	for i := range reqs {
		reqs[i] = 0
	}
	for i := range out {
		out[i] = 0
	}
	if !slices.Equal(second, want) {
		t.Errorf("an answer shares memory with a list handed in: %v, want %v", second, want)
	}
}

func TestNothingIsKeptBetweenCalls(t *testing.T) {
	reqs, out := []int{9, 3, 1, 9, 3}, []int{3, 9, 1}
	ask := func() string {
		missed, held, err := play.Run(reqs, 2, out)
		return fmt.Sprint(missed, held, err)
	}
	want := ask()
	play.Run([]int{4, 5, 6, 7}, 4, nil)
	play.Run([]int{4, 5}, 1, nil)
	play.Run([]int{4, 5}, 1, []int{9})
	play.Run([]int{16}, 1, nil)
	if got := ask(); got != want {
		t.Errorf("behind other calls got %s, want %s", got, want)
	}
}
