package stack_test

import (
	"fmt"
	"math"
	"math/bits"
	"slices"
	"testing"

	"larderwick/api"
	"larderwick/lru"
	"larderwick/opt"
	"larderwick/plain"
	"larderwick/stack"
)

// around gives n requests that go around so many pages.
func around(n, pages int) []int {
	reqs := make([]int, n)
	for i := range reqs {
		reqs[i] = i % pages
	}
	return reqs
}

// with gives a copy of a list in which one thing is another.
func with(list []int, at, thing int) []int {
	changed := slices.Clone(list)
	changed[at] = thing
	return changed
}

// again gives a list of one number, so many times, behind so many zeros.
func again(zeros, n, thing int) []int {
	return append(make([]int, zeros), slices.Repeat([]int{thing}, n)...)
}

func TestDepthsAndCurve(t *testing.T) {
	cases := []struct {
		name   string
		reqs   []int
		depths []int
		curve  []int
	}{
		{"nil, no requests", nil, nil, []int{0, 0, 0, 0, 0, 0, 0, 0}},
		{"empty, no requests", []int{}, nil, []int{0, 0, 0, 0, 0, 0, 0, 0}},
		{"one page", []int{5}, []int{0}, []int{1, 1, 1, 1, 1, 1, 1, 1}},
		{"page 0 was never asked for at first", []int{0}, []int{0}, []int{1, 1, 1, 1, 1, 1, 1, 1}},
		{"just ahead of it", []int{5, 5}, []int{0, 1}, []int{1, 1, 1, 1, 1, 1, 1, 1}},
		{"page 0 just ahead of it", []int{0, 0}, []int{0, 1}, []int{1, 1, 1, 1, 1, 1, 1, 1}},
		{"again and again", []int{5, 5, 5, 5}, []int{0, 1, 1, 1}, []int{1, 1, 1, 1, 1, 1, 1, 1}},
		{"pages at both ends", []int{15, 0, 15, 0}, []int{0, 0, 2, 2}, []int{4, 2, 2, 2, 2, 2, 2, 2}},
		{"each page once", []int{9, 2, 7, 4}, []int{0, 0, 0, 0}, []int{4, 4, 4, 4, 4, 4, 4, 4}},
		{"two others between", []int{1, 2, 3, 1}, []int{0, 0, 0, 3}, []int{4, 4, 3, 3, 3, 3, 3, 3}},
		{"pages are counted, not requests", []int{1, 2, 2, 2, 1}, []int{0, 0, 1, 1, 2}, []int{3, 2, 2, 2, 2, 2, 2, 2}},
		{"nor requests of two that take turns", []int{1, 2, 3, 2, 3, 1}, []int{0, 0, 0, 2, 2, 3}, []int{6, 4, 3, 3, 3, 3, 3, 3}},
		{"the last asking counts, not the first", []int{1, 2, 3, 1, 4, 1}, []int{0, 0, 0, 3, 0, 2}, []int{6, 5, 4, 4, 4, 4, 4, 4}},
		{"who was asked for only ahead of that is not counted", []int{2, 1, 3, 1}, []int{0, 0, 0, 2}, []int{4, 3, 3, 3, 3, 3, 3, 3}},
		{"who was asked for both ahead of that and since is counted once", []int{2, 1, 2, 3, 1}, []int{0, 0, 2, 0, 3}, []int{5, 4, 3, 3, 3, 3, 3, 3}},
		{"the deepest, then back", []int{1, 2, 3, 3, 2, 1}, []int{0, 0, 0, 1, 2, 3}, []int{5, 4, 3, 3, 3, 3, 3, 3}},
		{"around three", []int{1, 2, 3, 1, 2, 3}, []int{0, 0, 0, 3, 3, 3}, []int{6, 6, 3, 3, 3, 3, 3, 3}},
		{"more slots miss less of these", []int{1, 2, 3, 4, 1, 2, 5, 1, 2, 3, 4, 5}, []int{0, 0, 0, 0, 4, 4, 0, 3, 3, 5, 5, 5}, []int{12, 12, 10, 8, 5, 5, 5, 5}},
		{"as deep as MaxSlots", around(9, 8), again(8, 1, 8), []int{9, 9, 9, 9, 9, 9, 9, 8}},
		{"deeper than MaxSlots", around(10, 9), again(9, 1, 9), []int{10, 10, 10, 10, 10, 10, 10, 10}},
		{"as deep as MaxPages", around(17, 16), again(16, 1, 16), []int{17, 17, 17, 17, 17, 17, 17, 17}},
		{"MaxReqs, MaxPages", around(api.MaxReqs, api.MaxPages), again(16, 24, 16), []int{40, 40, 40, 40, 40, 40, 40, 40}},
		{"MaxReqs, MaxSlots", around(api.MaxReqs, api.MaxSlots), again(8, 32, 8), []int{40, 40, 40, 40, 40, 40, 40, 8}},
		{"MaxReqs, one page", around(api.MaxReqs, 1), again(1, 39, 1), []int{1, 1, 1, 1, 1, 1, 1, 1}},
	}
	for _, c := range cases {
		t.Run(c.name, func(t *testing.T) {
			depths, err := stack.Depths(c.reqs)
			if err != nil || !slices.Equal(depths, c.depths) {
				t.Errorf("Depths: got %v %v, want %v", depths, err, c.depths)
			}
			curve, err := stack.Curve(c.reqs)
			if err != nil || !slices.Equal(curve, c.curve) {
				t.Errorf("Curve: got %v %v, want %v", curve, err, c.curve)
			}
		})
	}
}

func TestFaults(t *testing.T) {
	full := around(api.MaxReqs, api.MaxPages)
	over := around(api.MaxReqs+1, api.MaxPages)
	cases := []struct {
		name string
		reqs []int
		want api.Errno
	}{
		{"no requests", nil, api.OK},
		{"MaxReqs requests", full, api.OK},
		{"one request more", over, api.ErrFull},
		{"one page, one request more", around(api.MaxReqs+1, 1), api.ErrFull},
		{"far too many", around(1_000, 3), api.ErrFull},
		{"page MaxPages - 1", []int{api.MaxPages - 1}, api.OK},
		{"page MaxPages", []int{api.MaxPages}, api.ErrRange},
		{"page -1", []int{-1}, api.ErrRange},
		{"the least page", []int{math.MinInt}, api.ErrRange},
		{"the greatest page", []int{math.MaxInt}, api.ErrRange},
		{"no page, again and again", []int{-1, -1, -1}, api.ErrRange},
		{"only the first is no page", with(full, 0, -1), api.ErrRange},
		{"only the middle one is no page", with(full, 20, api.MaxPages), api.ErrRange},
		{"only the last is no page", with(full, api.MaxReqs-1, api.MaxPages), api.ErrRange},
		{"too many, and the first is no page", with(over, 0, -1), api.ErrFull},
		{"too many, and the last is no page", with(over, api.MaxReqs, api.MaxPages), api.ErrFull},
	}
	for _, c := range cases {
		t.Run(c.name, func(t *testing.T) {
			depths, err := stack.Depths(c.reqs)
			if got := plain.Told(err); got != c.want {
				t.Errorf("Depths told %v, want %v", got, c.want)
			}
			curve, err := stack.Curve(c.reqs)
			if got := plain.Told(err); got != c.want {
				t.Errorf("Curve told %v, want %v", got, c.want)
			}
			if c.want != api.OK && (len(depths) != 0 || len(curve) != 0) {
				t.Errorf("beside an error told %v %v", depths, curve)
			}
		})
	}
}

// lookedBack tells the depth of one request by going back to the one of the same page, with a set of the pages met on the way, so that no step of it is a step of Depths.
func lookedBack(reqs []int, i int) int {
	met := uint(0)
	for back := i - 1; back >= 0; back-- {
		met |= 1 << reqs[back]
		if reqs[back] == reqs[i] {
			return bits.OnesCount(met)
		}
	}
	return 0
}

// missed counts the requests whose page was not there.
func missed(there []bool) int {
	count := 0
	for _, was := range there {
		if !was {
			count++
		}
	}
	return count
}

// compare holds Depths against lookedBack, and both calls against chapter 2's store: with so many slots just the pages that lie no deeper are there.
func compare(t *testing.T, reqs []int) {
	t.Helper()
	depths, err := stack.Depths(reqs)
	if err != nil || len(depths) != len(reqs) {
		t.Fatalf("Depths(%v): got %v %v", reqs, depths, err)
	}
	for i, depth := range depths {
		if want := lookedBack(reqs, i); depth != want {
			t.Fatalf("Depths(%v): got %v, want %d at %d", reqs, depths, want, i)
		}
	}
	curve, err := stack.Curve(reqs)
	if err != nil || len(curve) != api.MaxSlots {
		t.Fatalf("Curve(%v): got %v %v", reqs, curve, err)
	}
	for i, count := range curve {
		there, _, _ := lru.Run(reqs, i+1)
		for k, was := range there {
			if was != (depths[k] >= 1 && depths[k] <= i+1) {
				t.Fatalf("Depths(%v): got %v, but with %d slots request %d: there %v", reqs, depths, i+1, k, was)
			}
		}
		if count != missed(there) {
			t.Fatalf("Curve(%v): got %v, but with %d slots %d are missed", reqs, curve, i+1, missed(there))
		}
	}
}

// lists gives all lists of up to so many of the numbers below a bound.
func lists(most, below int) [][]int {
	all := [][]int{nil}
	for from := 0; most > 0; most-- {
		till := len(all)
		for ; from < till; from++ {
			for thing := range below {
				all = append(all, append(slices.Clone(all[from]), thing))
			}
		}
	}
	return all
}

func TestAllSmall(t *testing.T) {
	for _, reqs := range lists(7, 4) {
		compare(t, reqs)
	}
}

// scattered gives requests that jump about, the same ones for the same seed.
func scattered(seed, n, pages int) []int {
	reqs := make([]int, n)
	state := uint64(seed) + 1
	for i := range reqs {
		state = state*6364136223846793005 + 1442695040888963407
		reqs[i] = int(state >> 33 % uint64(pages))
	}
	return reqs
}

func TestLong(t *testing.T) {
	for seed := range 400 {
		compare(t, scattered(seed, api.MaxReqs-seed%3, 1+seed%api.MaxPages))
	}
}

// More slots are no worse, and nobody misses less often than who knows what comes.
func TestCurveFalls(t *testing.T) {
	for seed := range 200 {
		reqs := scattered(seed, api.MaxReqs, 1+seed%api.MaxPages)
		curve, _ := stack.Curve(reqs)
		for i, count := range curve {
			if i > 0 && count > curve[i-1] {
				t.Fatalf("Curve(%v): got %v, which rises", reqs, curve)
			}
			there, _, _, _ := opt.Run(reqs, i+1)
			if count < missed(there) {
				t.Fatalf("Curve(%v): got %v, but with %d slots at least %d are missed", reqs, curve, i+1, missed(there))
			}
		}
	}
}

func TestListsAreLeftAlone(t *testing.T) {
	cases := []struct {
		name string
		reqs []int
	}{
		{"well", []int{9, 3, 1, 9, 3}},
		{"one page", []int{9, 9}},
		{"no request", nil},
		{"MaxReqs requests", around(api.MaxReqs, api.MaxPages)},
		{"ErrFull", around(api.MaxReqs+1, 3)},
		{"ErrRange", []int{9, 3, 9, 16}},
	}
	for _, c := range cases {
		t.Run(c.name, func(t *testing.T) {
			whole := append(slices.Clone(c.reqs), 11, 12, 13)
			was := slices.Clone(whole)
			depths, _ := stack.Depths(whole[:len(c.reqs)])
			curve, _ := stack.Curve(whole[:len(c.reqs)])
			for _, answer := range [][]int{depths, curve} {
				wide := answer[:cap(answer)]
				for i := range wide {
					wide[i] = -7
				}
			}
			if !slices.Equal(whole, was) {
				t.Errorf("the list was %v, is %v", was, whole)
			}
		})
	}
}

func TestBehindTheLengthNothingIsRead(t *testing.T) {
	whole := []int{1, 2, 1, 99, -1}
	depths, err := stack.Depths(whole[:2])
	if err != nil || !slices.Equal(depths, []int{0, 0}) {
		t.Errorf("Depths: got %v %v, want [0 0]", depths, err)
	}
	curve, err := stack.Curve(whole[:3])
	if err != nil || !slices.Equal(curve, []int{3, 2, 2, 2, 2, 2, 2, 2}) {
		t.Errorf("Curve: got %v %v, want [3 2 2 2 2 2 2 2]", curve, err)
	}
}

func TestAnswersAreTheCallers(t *testing.T) {
	reqs := []int{9, 3, 9, 1, 3, 9}
	firstDepths, _ := stack.Depths(reqs)
	firstCurve, _ := stack.Curve(reqs)
	secondDepths, _ := stack.Depths(reqs)
	secondCurve, _ := stack.Curve(reqs)
	for _, list := range [][]int{firstDepths, firstCurve, reqs} {
		for i := range list {
			list[i] = -7
		}
	}
	const want = "[0 0 2 0 3 3] [6 5 3 3 3 3 3 3]"
	if got := fmt.Sprint(secondDepths, secondCurve); got != want {
		t.Errorf("an answer shares memory: %s, want %s", got, want)
	}
}

func TestNothingIsKeptBetweenCalls(t *testing.T) {
	reqs := []int{9, 3, 1, 9, 3}
	ask := func() string {
		depths, err := stack.Depths(reqs)
		curve, fault := stack.Curve(reqs)
		return fmt.Sprint(depths, err, curve, fault)
	}
	want := ask()
	for _, other := range [][]int{{4, 9, 3, 7}, {9, 16}, {3, 9, -1}, around(api.MaxReqs+1, 3)} {
		stack.Depths(other)
		stack.Curve(other)
		if got := ask(); got != want {
			t.Errorf("behind %v got %s, want %s", other, got, want)
		}
	}
}
