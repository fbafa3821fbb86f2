package fit_test

import (
	"fmt"
	"math"
	"slices"
	"strings"
	"testing"

	"larderwick/api"
	"larderwick/fit"
	"larderwick/plain"
)

const places = 1 << api.MaxOrder

type kind int

const (
	lending kind = iota
	backing
	packing
)

// step asks an arena for a block, gives one back, or packs all.
type step struct {
	kind   kind
	number int // the size that is asked for, or where the block begins
}

func lend(size int) step { return step{lending, size} }

func back(at int) step { return step{backing, at} }

var pack = step{kind: packing}

// lends asks for a block of each size.
func lends(sizes ...int) []step {
	var steps []step
	for _, size := range sizes {
		steps = append(steps, lend(size))
	}
	return steps
}

// backs gives back the block at each place.
func backs(at ...int) []step {
	var steps []step
	for _, place := range at {
		steps = append(steps, back(place))
	}
	return steps
}

// same asks for so many blocks of one size.
func same(many, size int) []step {
	return slices.Repeat([]step{lend(size)}, many)
}

// taker is whatever lends blocks.
type taker interface {
	Lend(size int) (int, error)
	Back(at int) error
	Pack() []int
	Lent() (at, sizes []int)
	Holes() (at, sizes []int)
}

// take goes a step, and writes what is told.
func take(a taker, s step) string {
	switch s.kind {
	case backing:
		return "back " + plain.Told(a.Back(s.number)).Error()
	case packing:
		return fmt.Sprint("pack ", a.Pack())
	}
	at, err := a.Lend(s.number)
	return fmt.Sprint(at, " ", plain.Told(err))
}

// all goes one step behind the other, and writes what is told.
func all(a taker, steps []step) string {
	var told []string
	for _, s := range steps {
		told = append(told, take(a, s))
	}
	return strings.Join(told, ", ")
}

// stands writes which blocks are lent, each with its size, and where places are free.
func stands(a taker) string {
	at, sizes := a.Lent()
	text := fmt.Sprint(at, sizes)
	at, sizes = a.Holes()
	return text + " holes" + fmt.Sprint(at, sizes)
}

const fresh = "[] [] holes[0] [64]"

func TestNew(t *testing.T) {
	if got := stands(fit.New()); got != fresh {
		t.Errorf("got %s, want %s", got, fresh)
	}
}

type played struct {
	name        string
	steps       []step
	told, after string
}

func play(t *testing.T, cases []played) {
	for _, c := range cases {
		t.Run(c.name, func(t *testing.T) {
			a := fit.New()
			if got := all(a, c.steps); got != c.told {
				t.Errorf("told %s, want %s", got, c.told)
			}
			if got := stands(a); got != c.after {
				t.Errorf("stands %s, want %s", got, c.after)
			}
		})
	}
}

func TestLendAndBack(t *testing.T) {
	play(t, []played{
		{"one place", lends(1), "0 OK", "[0] [1] holes[1] [63]"},
		{"all places", lends(64), "0 OK", "[0] [64] holes[] []"},
		{"all places but one", lends(63), "0 OK", "[0] [63] holes[63] [1]"},
		{"the last place", lends(63, 1), "0 OK, 63 OK", "[0 63] [63 1] holes[] []"},
		{"one behind the other", lends(3, 1, 4, 1, 5), "0 OK, 3 OK, 4 OK, 8 OK, 9 OK", "[0 3 4 8 9] [3 1 4 1 5] holes[14] [50]"},
		{"sizes that fill all", lends(8, 9, 10, 37), "0 OK, 8 OK, 17 OK, 27 OK", "[0 8 17 27] [8 9 10 37] holes[] []"},
		{"one, back", append(lends(5), back(0)), "0 OK, back OK", fresh},
		{"all, back", append(lends(64), back(0)), "0 OK, back OK", fresh},
		{"all, back, and again", []step{lend(64), back(0), lend(64)}, "0 OK, back OK, 0 OK", "[0] [64] holes[] []"},
		{"a hole at the beginning", append(lends(5, 3), back(0)), "0 OK, 5 OK, back OK", "[5] [3] holes[0 8] [5 56]"},
		{"a hole between", append(lends(5, 3, 2), back(5)), "0 OK, 5 OK, 8 OK, back OK", "[0 8] [5 2] holes[5 10] [3 54]"},
		{"no hole at the end", append(lends(5, 3, 56), back(5)), "0 OK, 5 OK, 8 OK, back OK", "[0 8] [5 56] holes[5] [3]"},
		{"one hole with the one behind it", append(lends(5, 3, 2), backs(5, 0)...), "0 OK, 5 OK, 8 OK, back OK, back OK", "[8] [2] holes[0 10] [8 54]"},
		{"one hole with the one ahead of it", append(lends(5, 3, 2), backs(0, 5)...), "0 OK, 5 OK, 8 OK, back OK, back OK", "[8] [2] holes[0 10] [8 54]"},
		{"one hole with both", append(lends(5, 3, 2, 4), backs(0, 8, 5)...), "0 OK, 5 OK, 8 OK, 10 OK, back OK, back OK, back OK", "[10] [4] holes[0 14] [10 50]"},
		{"one hole with what was never lent", append(lends(5, 3), back(5)), "0 OK, 5 OK, back OK", "[0] [5] holes[5] [59]"},
		{"as great as the hole", append(lends(5, 3, 2), back(5), lend(3)), "0 OK, 5 OK, 8 OK, back OK, 5 OK", "[0 5 8] [5 3 2] holes[10] [54]"},
		{"less than the hole", append(lends(5, 3, 2), back(5), lend(2)), "0 OK, 5 OK, 8 OK, back OK, 5 OK", "[0 5 8] [5 2 2] holes[7 10] [1 54]"},
		{"more than the hole by one", append(lends(5, 3, 2), back(5), lend(4)), "0 OK, 5 OK, 8 OK, back OK, 10 OK", "[0 8 10] [5 2 4] holes[5 14] [3 50]"},
		{"the first that fits, though a later one fits better", append(lends(8, 1, 3, 1), back(0), back(9), lend(3)), "0 OK, 8 OK, 9 OK, 12 OK, back OK, back OK, 0 OK", "[0 8 12] [3 1 1] holes[3 9 13] [5 3 51]"},
		{"the first that fits, though a later one is greater", append(lends(4, 1, 9, 1), back(0), back(5), lend(3)), "0 OK, 4 OK, 5 OK, 14 OK, back OK, back OK, 0 OK", "[0 4 14] [3 1 1] holes[3 5 15] [1 9 49]"},
		{"the first hole, not the one that came last", append(lends(4, 1, 4, 1), back(5), back(0), lend(4)), "0 OK, 4 OK, 5 OK, 9 OK, back OK, back OK, 0 OK", "[0 4 9] [4 1 1] holes[5 10] [4 54]"},
		{"the first hole, not the one that came first", append(lends(4, 1, 4, 1), back(0), back(5), lend(4)), "0 OK, 4 OK, 5 OK, 9 OK, back OK, back OK, 0 OK", "[0 4 9] [4 1 1] holes[5 10] [4 54]"},
		{"from the beginning on each time, not from where it was found last", append(lends(2, 2, 2, 2), back(4), lend(1), back(0), lend(1)), "0 OK, 2 OK, 4 OK, 6 OK, back OK, 4 OK, back OK, 0 OK", "[0 2 4 6] [1 2 1 2] holes[1 5 8] [1 1 56]"},
		{"past holes that are too small", append(lends(2, 1, 3, 1, 5, 1), back(0), back(3), back(7), lend(4)), "0 OK, 2 OK, 3 OK, 6 OK, 7 OK, 12 OK, back OK, back OK, back OK, 7 OK", "[2 6 7 12] [1 1 4 1] holes[0 3 11 13] [2 3 1 51]"},
		{"places of two blocks that were given back", append(lends(2, 3, 59), back(0), back(2), lend(5)), "0 OK, 2 OK, 5 OK, back OK, back OK, 0 OK", "[0 5] [5 59] holes[] []"},
		{"full, but for a block that was given back", append(same(4, 16), back(16), lend(17), lend(16)), "0 OK, 16 OK, 32 OK, 48 OK, back OK, 0 ErrFull, 16 OK", "[0 16 32 48] [16 16 16 16] holes[] []"},
	})
}

func TestPack(t *testing.T) {
	play(t, []played{
		{"nothing is lent", []step{pack}, "pack []", fresh},
		{"nothing is lent any more", append(lends(3), back(0), pack), "0 OK, back OK, pack []", fresh},
		{"all is one block", append(lends(64), pack), "0 OK, pack [0]", "[0] [64] holes[] []"},
		{"no place is free between", append(lends(3, 4, 5), pack), "0 OK, 3 OK, 7 OK, pack [0 3 7]", "[0 3 7] [3 4 5] holes[12] [52]"},
		{"a hole at the beginning", append(lends(3, 4, 5), back(0), pack), "0 OK, 3 OK, 7 OK, back OK, pack [0 4]", "[0 4] [4 5] holes[9] [55]"},
		{"a hole between", append(lends(3, 4, 5), back(3), pack), "0 OK, 3 OK, 7 OK, back OK, pack [0 3]", "[0 3] [3 5] holes[8] [56]"},
		{"holes between, and none at the end", append(lends(10, 20, 1, 13, 20), back(0), back(30), back(31), pack), "0 OK, 10 OK, 30 OK, 31 OK, 44 OK, back OK, back OK, back OK, pack [0 20]", "[0 20] [20 20] holes[40] [24]"},
		{"by less than their own size", append(lends(1, 40, 1, 10), back(0), back(41), pack), "0 OK, 1 OK, 41 OK, 42 OK, back OK, back OK, pack [0 40]", "[0 40] [40 10] holes[50] [14]"},
		{"in the order of places, not of lending", append(lends(6, 5, 4), back(0), lend(2), lend(1), pack), "0 OK, 6 OK, 11 OK, back OK, 0 OK, 2 OK, pack [0 2 3 8]", "[0 2 3 8] [2 1 5 4] holes[12] [52]"},
		{"not a later one into a hole that it fits", append(lends(3, 5, 1, 3), back(0), back(8), pack), "0 OK, 3 OK, 8 OK, 9 OK, back OK, back OK, pack [0 5]", "[0 5] [5 3] holes[8] [56]"},
		{"again", append(lends(3, 4, 5), back(3), pack, pack), "0 OK, 3 OK, 7 OK, back OK, pack [0 3], pack [0 3]", "[0 3] [3 5] holes[8] [56]"},
		{"what did not fit fits then", append(lends(20, 20, 20), back(0), lend(24), pack, lend(24)), "0 OK, 20 OK, 40 OK, back OK, 0 ErrFull, pack [0 20], 40 OK", "[0 20 40] [20 20 24] holes[] []"},
		{"given back where it begins then", append(lends(3, 4, 5), back(0), pack, back(4)), "0 OK, 3 OK, 7 OK, back OK, pack [0 4], back OK", "[0] [4] holes[4] [60]"},
		{"not where it began", append(lends(3, 4, 5), back(0), pack, back(7), back(3)), "0 OK, 3 OK, 7 OK, back OK, pack [0 4], back ErrNone, back ErrNone", "[0 4] [4 5] holes[9] [55]"},
		{"where one began, another may then", append(lends(2, 3, 3), back(0), lend(1), pack, back(4)), "0 OK, 2 OK, 5 OK, back OK, 0 OK, pack [0 1 4], back OK", "[0 1] [1 3] holes[4] [60]"},
	})
}

// wrong numbers are no size, and no place.
var wrong = []int{-1, -2, -63, -64, -65, 65, 66, 128, math.MinInt, math.MinInt + 1, math.MaxInt, math.MaxInt - 1, 1 << 32, 1<<32 + 1, -1 << 32, 1 << 62}

// odds gives the places whose numbers are odd.
func odds() []int {
	var at []int
	for place := 1; place < places; place += 2 {
		at = append(at, place)
	}
	return at
}

// with gives a list that has a number more.
func with(list []int, number int) []int {
	return append(slices.Clone(list), number)
}

func TestFaults(t *testing.T) {
	cases := []struct {
		name   string
		steps  []step
		kind   kind
		number []int
		want   api.Errno
	}{
		{"no size, at first", nil, lending, with(wrong, 0), api.ErrRange},
		{"no size, while some are lent", lends(1, 8, 4), lending, with(wrong, 0), api.ErrRange},
		{"no size, while all is lent: ErrRange is told, not ErrFull", lends(64), lending, with(wrong, 0), api.ErrRange},
		{"all is lent, at once", lends(64), lending, []int{1, 2, 32, 63, 64}, api.ErrFull},
		{"all is lent, one by one", same(places, 1), lending, []int{1, 2, 32, 63, 64}, api.ErrFull},
		{"one is lent, at the beginning", lends(1), lending, []int{64}, api.ErrFull},
		{"one is lent, at the end", append(lends(63, 1), back(0)), lending, []int{64}, api.ErrFull},
		{"one is lent, between", append(lends(31, 1), back(0)), lending, []int{33, 63, 64}, api.ErrFull},
		{"a place too few", lends(60), lending, []int{5, 6, 64}, api.ErrFull},
		{"every second place is free", append(same(places, 1), backs(odds()...)...), lending, []int{2, 3, 32, 64}, api.ErrFull},
		{"enough are free, but not from one place on", append(lends(16, 16, 16, 16), backs(0, 32)...), lending, []int{17, 32}, api.ErrFull},
		{"packed, and a place too few", append(lends(16, 16, 16, 16), back(0), back(32), pack), lending, []int{33, 64}, api.ErrFull},
		{"nothing is lent", nil, backing, append([]int{0, 1, 32, 63, 64}, wrong...), api.ErrNone},
		{"nothing is lent, and all is packed", []step{pack}, backing, append([]int{0, 1, 63, 64}, wrong...), api.ErrNone},
		{"all is lent, but not from there on", lends(64), backing, append([]int{1, 2, 31, 32, 33, 63, 64}, wrong...), api.ErrNone},
		{"within a block, and where free ones begin", append(lends(4, 2, 3), back(4)), backing, append([]int{1, 2, 3, 4, 5, 7, 8, 9, 10, 63, 64}, wrong...), api.ErrNone},
		{"given back once", append(lends(4, 4), back(4)), backing, []int{4, 5, 8}, api.ErrNone},
		{"where blocks began once", append(lends(1, 1, 1), append(backs(0, 1, 2), lend(4))...), backing, []int{1, 2, 3}, api.ErrNone},
		{"where blocks began until they were packed", append(lends(4, 5, 6), back(0), pack), backing, []int{4, 9, 11}, api.ErrNone},
	}
	for _, c := range cases {
		for _, number := range c.number {
			t.Run(fmt.Sprint(c.name, ": ", number), func(t *testing.T) {
				a := again(c.steps)
				was := stands(a)
				want := fmt.Sprint("0 ", c.want)
				if c.kind == backing {
					want = "back " + c.want.Error()
				}
				for range 2 {
					if got := take(a, step{c.kind, number}); got != want {
						t.Errorf("told %s, want %s", got, want)
					}
					if got := stands(a); got != was {
						t.Errorf("stood %s, stands %s", was, got)
					}
				}
			})
		}
	}
}

// strip knows of each place by how many-th lending it was lent, or 0, and nothing else. It looks at places one by one.
type strip struct {
	by      [places]int
	lending int
}

// fits tells whether so many places are free from one on.
func (s *strip) fits(at, size int) bool {
	for place := at; place < at+size; place++ {
		if place >= places || s.by[place] != 0 {
			return false
		}
	}
	return true
}

func (s *strip) Lend(size int) (int, error) {
	if size <= 0 || size > places {
		return 0, api.ErrRange
	}
	for at := range places {
		if s.fits(at, size) {
			s.lending++
			for i := range size {
				s.by[at+i] = s.lending
			}
			return at, nil
		}
	}
	return 0, api.ErrFull
}

func (s *strip) Back(at int) error {
	lent, _ := s.Lent()
	if !slices.Contains(lent, at) {
		return api.ErrNone
	}
	for by, place := s.by[at], at; place < places && s.by[place] == by; place++ {
		s.by[place] = 0
	}
	return nil
}

func (s *strip) Pack() []int {
	next := 0
	for place, by := range s.by {
		if by != 0 {
			s.by[place] = 0
			s.by[next] = by
			next++
		}
	}
	at, _ := s.Lent()
	return at
}

// runs tells where places that are of one lending begin, and how many they are, of those that are free, or of those that are not.
func (s *strip) runs(free bool) (at, sizes []int) {
	for place, by := range s.by {
		if (by == 0) != free {
			continue
		}
		if place == 0 || s.by[place-1] != by {
			at, sizes = append(at, place), append(sizes, 0)
		}
		sizes[len(sizes)-1]++
	}
	return at, sizes
}

func (s *strip) Lent() (at, sizes []int) { return s.runs(false) }

func (s *strip) Holes() (at, sizes []int) { return s.runs(true) }

// compareAll goes behind the steps gone every row of so many of the steps next, with an arena and with a strip, and holds the last step, and how all stands then, against each other.
func compareAll(t *testing.T, s strip, gone, next []step, many int) {
	t.Helper()
	if many == 0 {
		return
	}
	for _, last := range next {
		to, a := s, again(gone)
		steps := append(slices.Clone(gone), last)
		want := take(&to, last)
		if got := take(a, last); got != want {
			t.Fatalf("%v: the last step told %s, want %s", steps, got, want)
		}
		if got, want := stands(a), stands(&to); got != want {
			t.Fatalf("%v: stands %s, want %s", steps, got, want)
		}
		compareAll(t, to, steps, next, many-1)
	}
}

func TestAllSmall(t *testing.T) {
	cases := []struct {
		gone, next []step
		many       int
	}{
		{nil, append(lends(1, 2, 31, 32, 62, 63, 64), append(backs(0, 1, 2, 31, 32, 63), pack)...), 3},
		{nil, append(lends(20, 21, 24, 43), append(backs(0, 20, 21, 40, 41), pack)...), 4},
		{lends(50, 2, 3, 4, 5), append(lends(1, 2, 3, 7), append(backs(0, 50, 52, 55, 59), pack)...), 4},
		{append(same(places, 1), backs(1, 2, 4, 7, 8, 9)...), append(lends(1, 2, 3, 4), append(backs(0, 3, 5, 6, 10), pack)...), 4},
	}
	for _, c := range cases {
		var s strip
		all(&s, c.gone)
		compareAll(t, s, c.gone, c.next, c.many)
	}
}

// scattered gives numbers that jump about below a bound, the same ones for the same seed.
func scattered(seed, many, below int) []int {
	list := make([]int, many)
	state := uint64(seed) + 1
	for i := range list {
		state = state*6364136223846793005 + 1442695040888963407
		list[i] = int(state >> 33 % uint64(below))
	}
	return list
}

// next gives a step by a number that jumps about: mostly of one that a strip can go, else of any. Of some seeds small blocks are asked for alone, and of some it is packed never.
func next(s *strip, seed, number int) step {
	at, _ := s.Lent()
	kind, number := number%32, number/32
	switch {
	case kind == 0:
		return back(number%(places+3) - 1)
	case kind == 1:
		return lend(number%(places+3) - 1)
	case kind == 2 && seed%4 > 0:
		return pack
	case kind < 17-seed%3 && len(at) > 0:
		return back(at[number%len(at)])
	}
	return lend(1 + number%(2+seed%20))
}

// long goes 300 steps with an arena and a strip, and looks at each step behind it.
func long(t *testing.T, seed int, look func(a *fit.Arena, s *strip, gone step)) (*fit.Arena, *strip) {
	t.Helper()
	a, s := fit.New(), &strip{}
	for _, number := range scattered(seed, 300, 1<<20) {
		gone := next(s, seed, number)
		if got, want := take(a, gone), take(s, gone); got != want {
			t.Fatalf("seed %d: %v told %s, want %s", seed, gone, got, want)
		}
		look(a, s, gone)
	}
	return a, s
}

func TestLong(t *testing.T) {
	for seed := range 80 {
		long(t, seed, func(a *fit.Arena, s *strip, gone step) {
			if got, want := stands(a), stands(s); got != want {
				t.Fatalf("seed %d, behind %v: stands %s, want %s", seed, gone, got, want)
			}
		})
	}
}

// shares tells of each place in how many blocks and holes it is.
func shares(a *fit.Arena) (many [places]int) {
	for _, told := range []func() (at, sizes []int){a.Lent, a.Holes} {
		at, sizes := told()
		for i := range at {
			for place := range sizes[i] {
				many[at[i]+place]++
			}
		}
	}
	return many
}

// Each place is always in one block or one hole; and whatever was lent, all places are free again once it is given back, in whichever order.
func TestAllIsThereAgain(t *testing.T) {
	var once [places]int
	for place := range once {
		once[place] = 1
	}
	for seed := range 80 {
		a, _ := long(t, seed, func(a *fit.Arena, s *strip, gone step) {
			if got := shares(a); got != once {
				t.Fatalf("seed %d, behind %v: places are in so many blocks: %v", seed, gone, got)
			}
		})
		lent, _ := a.Lent()
		for _, number := range scattered(seed+1_000, len(lent), 1<<20) {
			i := number % len(lent)
			if err := a.Back(lent[i]); err != nil {
				t.Fatalf("seed %d: Back(%d) told %v", seed, lent[i], err)
			}
			lent = slices.Delete(lent, i, i+1)
		}
		if got := stands(a); got != fresh {
			t.Fatalf("seed %d: all is given back, but stands %s", seed, got)
		}
	}
}

// Blocks of one size are lent one behind the other, as many as there may be, and all places are free again from whichever end they are given back.
func TestAllOfOneSize(t *testing.T) {
	for size := 1; size <= places; size++ {
		for _, turned := range []bool{false, true} {
			a := fit.New()
			for i := range places / size {
				if at, err := a.Lend(size); err != nil || at != i*size {
					t.Fatalf("size %d: got %d %v, want %d", size, at, err, i*size)
				}
			}
			if got, want := take(a, lend(size)), "0 ErrFull"; got != want {
				t.Fatalf("size %d: told %s, want %s", size, got, want)
			}
			at, sizes := a.Lent()
			if len(at) != places/size || !slices.Equal(sizes, slices.Repeat([]int{size}, places/size)) {
				t.Fatalf("size %d: lent are %v %v", size, at, sizes)
			}
			if turned {
				slices.Reverse(at)
			}
			all(a, backs(at...))
			if got := stands(a); got != fresh {
				t.Errorf("size %d: stands %s", size, got)
			}
		}
	}
}

// spoil writes over lists, and over what stands behind their lengths.
func spoil(lists ...[]int) {
	for _, list := range lists {
		list = list[:cap(list)]
		for i := range list {
			list[i] = -7
		}
	}
}

// again gives a new arena that went some steps.
func again(steps []step) *fit.Arena {
	a := fit.New()
	all(a, steps)
	return a
}

// answers gives all lists that an arena answers now.
func answers(a *fit.Arena) [][]int {
	lent, lentSizes := a.Lent()
	holes, holeSizes := a.Holes()
	return [][]int{lent, lentSizes, holes, holeSizes, a.Pack()}
}

var rows = [][]step{
	nil,
	lends(1),
	lends(64),
	append(same(places, 1), backs(odds()...)...),
	append(lends(5, 1, 8, 2, 1), backs(0, 6)...),
	append(lends(5, 1, 8, 2, 1), back(5), pack),
}

func TestAnswersAreTheCallers(t *testing.T) {
	for _, steps := range rows {
		a := again(steps)
		lists := append(answers(a), answers(a)...)
		want := make([][]int, len(lists))
		for i, list := range lists {
			want[i] = slices.Clone(list)
		}
		was := stands(a)
		for i, list := range lists {
			spoil(list)
			for j := i + 1; j < len(lists); j++ {
				if !slices.Equal(lists[j], want[j]) {
					t.Fatalf("behind %v: list %d and list %d share memory: %v, want %v", steps, i, j, lists[j], want[j])
				}
			}
		}
		if got := stands(a); got != was {
			t.Errorf("behind %v: an answer is kept: stood %s, stands %s", steps, was, got)
		}
		for _, next := range []step{pack, lend(1), lend(2), back(0)} {
			spoiled, unspoiled := again(steps), again(steps)
			spoil(answers(spoiled)...)
			answers(unspoiled)
			if got, want := take(spoiled, next), take(unspoiled, next); got != want {
				t.Errorf("behind %v: an answer is kept: %v told %s, want %s", steps, next, got, want)
			}
		}
	}
}

// What was told stays as it was, whatever is lent, given back or packed later.
func TestAnswersStay(t *testing.T) {
	later := append(backs(0, 5, 1), append(lends(1, 2, 9), pack, back(1), lend(1), pack)...)
	for _, steps := range rows {
		a := again(steps)
		lent, sizes := a.Lent()
		holes, many := a.Holes()
		want := fmt.Sprint(lent, sizes, holes, many)
		packed := a.Pack()
		wantPacked := fmt.Sprint(packed)
		all(a, later)
		if got := fmt.Sprint(lent, sizes, holes, many); got != want {
			t.Errorf("behind %v: told was %s, is %s", steps, want, got)
		}
		if got := fmt.Sprint(packed); got != wantPacked {
			t.Errorf("behind %v: Pack told %s, is %s", steps, wantPacked, got)
		}
	}
}

// Arenas know nothing of each other.
func TestArenasAreApart(t *testing.T) {
	a, b := again(lends(2, 3, 4)), again(lends(7, 5))
	was := stands(b)
	all(a, append(backs(2), pack, lend(9), lend(65), back(63)))
	fit.New()
	if got := stands(b); got != was {
		t.Errorf("stood %s, stands %s", was, got)
	}
	if got := stands(fit.New()); got != fresh {
		t.Errorf("a new one stands %s", got)
	}
}

// To ask how an arena stands changes nothing.
func TestAskingChangesNothing(t *testing.T) {
	for seed := range 10 {
		var steps []step
		asked, _ := long(t, seed, func(a *fit.Arena, s *strip, gone step) {
			stands(a)
			steps = append(steps, gone)
		})
		if got, want := stands(asked), stands(again(steps)); got != want {
			t.Errorf("seed %d: asked stands %s, unasked %s", seed, got, want)
		}
	}
}
