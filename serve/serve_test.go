package serve_test

import (
	"fmt"
	"math"
	"slices"
	"testing"

	"larderwick/api"
	"larderwick/plain"
	"larderwick/serve"
)

// toAndFro gives places, one behind the other, so many times around.
func toAndFro(many int, places ...int) []int {
	return slices.Repeat(places, many)
}

// with gives a copy of a list in which one place is another.
func with(list []int, at, place int) []int {
	changed := slices.Clone(list)
	changed[at] = place
	return changed
}

// same gives a list of so many times one place.
func same(many, place int) []int {
	return slices.Repeat([]int{place}, many)
}

// ended: how far all went, and where they are at the end.
type ended struct {
	went int
	at   []int
}

func TestDoubleNearAndLeast(t *testing.T) {
	cases := []struct {
		name          string
		servers, asks []int
		double, near  ended
		least         int
	}{
		{"nil, no ask", []int{5}, nil, ended{0, []int{5}}, ended{0, []int{5}}, 0},
		{"empty, no ask: told rising", []int{9, 2, 5}, []int{}, ended{0, []int{2, 5, 9}}, ended{0, []int{2, 5, 9}}, 0},
		{"one, who is there", []int{4}, []int{4}, ended{0, []int{4}}, ended{0, []int{4}}, 0},
		{"one, from the left", []int{4}, []int{9}, ended{5, []int{9}}, ended{5, []int{9}}, 5},
		{"one, from the right", []int{4}, []int{1}, ended{3, []int{1}}, ended{3, []int{1}}, 3},
		{"one, from end to end", []int{0}, []int{api.MaxPlace, 0, api.MaxPlace}, ended{36, []int{12}}, ended{36, []int{12}}, 36},
		{"one, there and back, MaxMsgs asks", []int{0}, toAndFro(10, api.MaxPlace, 0), ended{240, []int{0}}, ended{240, []int{0}}, 240},
		{"one, who stays", []int{7}, same(api.MaxMsgs, 7), ended{0, []int{7}}, ended{0, []int{7}}, 0},
		{"two on the left: the nearest goes", []int{2, 5}, []int{9}, ended{4, []int{2, 9}}, ended{4, []int{2, 9}}, 4},
		{"two on the right: the nearest goes", []int{5, 8}, []int{1}, ended{4, []int{1, 8}}, ended{4, []int{1, 8}}, 4},
		{"three on the left", []int{0, 4, 7}, []int{api.MaxPlace}, ended{5, []int{0, 4, 12}}, ended{5, []int{0, 4, 12}}, 5},
		{"three on the right", []int{5, 8, 12}, []int{0}, ended{5, []int{0, 8, 12}}, ended{5, []int{0, 8, 12}}, 5},
		{"between, the left one is nearer", []int{2, 9}, []int{4}, ended{4, []int{4, 7}}, ended{2, []int{4, 9}}, 2},
		{"between, the right one is nearer", []int{2, 9}, []int{8}, ended{2, []int{3, 8}}, ended{1, []int{2, 8}}, 1},
		{"between, as near: both come, or the left one", []int{2, 8}, []int{5}, ended{6, []int{5, 5}}, ended{3, []int{5, 8}}, 3},
		{"as near, the right one is handed in first", []int{8, 2}, []int{5}, ended{6, []int{5, 5}}, ended{3, []int{5, 8}}, 3},
		{"one is there, the other on the left: nobody goes", []int{2, 5}, []int{5}, ended{0, []int{2, 5}}, ended{0, []int{2, 5}}, 0},
		{"one is there, the other on the right: nobody goes", []int{5, 9}, []int{5}, ended{0, []int{5, 9}}, ended{0, []int{5, 9}}, 0},
		{"one is there, others on both sides: nobody goes", []int{4, 5, 6}, []int{5}, ended{0, []int{4, 5, 6}}, ended{0, []int{4, 5, 6}}, 0},
		{"two are there, one beside them", []int{5, 5, 6}, []int{5}, ended{0, []int{5, 5, 6}}, ended{0, []int{5, 5, 6}}, 0},
		{"two at one place on the left: one goes", []int{3, 3}, []int{6}, ended{3, []int{3, 6}}, ended{3, []int{3, 6}}, 3},
		{"two at one place on the right: one goes", []int{3, 3}, []int{1}, ended{2, []int{1, 3}}, ended{2, []int{1, 3}}, 2},
		{"two at one place on the left, one on the right", []int{3, 3, 9}, []int{5}, ended{4, []int{3, 5, 7}}, ended{2, []int{3, 5, 9}}, 2},
		{"one on the left, two at one place on the right", []int{3, 9, 9}, []int{8}, ended{2, []int{4, 8, 9}}, ended{1, []int{3, 8, 9}}, 1},
		{"three at one place, both ends are asked for", []int{6, 6, 6}, []int{0, 12}, ended{12, []int{0, 6, 12}}, ended{12, []int{0, 6, 12}}, 12},
		{"three, the first one does not go", []int{0, 4, 10}, []int{5}, ended{2, []int{0, 5, 9}}, ended{1, []int{0, 5, 10}}, 1},
		{"three, the last one does not go", []int{0, 4, 10}, []int{3}, ended{2, []int{1, 3, 10}}, ended{1, []int{0, 3, 10}}, 1},
		{"three, not rising", []int{10, 0, 4}, []int{3}, ended{2, []int{1, 3, 10}}, ended{1, []int{0, 3, 10}}, 1},
		{"one step from each side", []int{0, 2}, []int{1}, ended{2, []int{1, 1}}, ended{1, []int{1, 2}}, 1},
		{"all from one end", []int{0, 0, 0}, []int{12, 6, 0}, ended{24, []int{0, 6, 6}}, ended{18, []int{0, 6, 12}}, 18},
		{"the left one comes, and goes back", []int{2, 8}, []int{5, 2}, ended{9, []int{2, 5}}, ended{6, []int{2, 8}}, 3},
		{"to let the farther one go is best", []int{0, 5}, []int{3, 5, 3, 5}, ended{9, []int{3, 5}}, ended{8, []int{0, 5}}, 3},
		{"the nearest goes there and back, the other one never", []int{1, 12}, toAndFro(10, 2, 1), ended{30, []int{1, 2}}, ended{20, []int{1, 12}}, 10},
		{"one at each end, both ends are asked for", []int{12, 0}, toAndFro(10, 12, 0), ended{0, []int{0, 12}}, ended{0, []int{0, 12}}, 0},
	}
	for _, c := range cases {
		t.Run(c.name, func(t *testing.T) {
			if err := serve.Check(c.servers, c.asks); err != nil {
				t.Errorf("Check told %v", err)
			}
			went, at, err := serve.Double(c.servers, c.asks)
			if err != nil || went != c.double.went || !slices.Equal(at, c.double.at) {
				t.Errorf("Double: got %d %v %v, want %v", went, at, err, c.double)
			}
			went, at, err = serve.Near(c.servers, c.asks)
			if err != nil || went != c.near.went || !slices.Equal(at, c.near.at) {
				t.Errorf("Near: got %d %v %v, want %v", went, at, err, c.near)
			}
			least, err := serve.Least(c.servers, c.asks)
			if err != nil || least != c.least {
				t.Errorf("Least: got %d %v, want %d", least, err, c.least)
			}
		})
	}
}

func TestFaults(t *testing.T) {
	three := []int{3, 0, 12}
	full := toAndFro(5, 0, 12, 5, 7)
	over := append(slices.Clone(full), 3)
	cases := []struct {
		name          string
		servers, asks []int
		want          api.Errno
	}{
		{"one server", []int{0}, full, api.OK},
		{"nil, no server", nil, full, api.ErrNone},
		{"empty, no server", []int{}, full, api.ErrNone},
		{"no server, no ask", nil, nil, api.ErrNone},
		{"MaxServers servers", three, full, api.OK},
		{"one server more", []int{3, 0, 12, 4}, full, api.ErrFull},
		{"one server more, no ask", []int{3, 0, 12, 4}, nil, api.ErrFull},
		{"one server more, all at one place", same(api.MaxServers+1, 4), full, api.ErrFull},
		{"far too many servers", same(1_000, 4), full, api.ErrFull},
		{"MaxMsgs asks, one server", []int{5}, full, api.OK},
		{"one ask more", three, over, api.ErrFull},
		{"one ask more, all at one place", three, same(api.MaxMsgs+1, 4), api.ErrFull},
		{"far too many asks", three, same(1_000, 4), api.ErrFull},
		{"too many of both", same(api.MaxServers+1, 4), over, api.ErrFull},
		{"servers at 0 and at MaxPlace", []int{0, api.MaxPlace}, nil, api.OK},
		{"a server below 0", []int{-1}, full, api.ErrRange},
		{"a server below 0, no ask", []int{-1}, nil, api.ErrRange},
		{"a server above MaxPlace", []int{api.MaxPlace + 1}, full, api.ErrRange},
		{"a server at the first number", []int{math.MinInt}, full, api.ErrRange},
		{"a server at the last number", []int{math.MaxInt}, full, api.ErrRange},
		{"only the first server is below 0", with(three, 0, -1), full, api.ErrRange},
		{"only the middle server is above MaxPlace", with(three, 1, api.MaxPlace+1), full, api.ErrRange},
		{"only the last server is above MaxPlace", with(three, 2, api.MaxPlace+1), full, api.ErrRange},
		{"asks at 0 and at MaxPlace", three, []int{0, api.MaxPlace}, api.OK},
		{"an ask below 0", three, []int{-1}, api.ErrRange},
		{"an ask above MaxPlace", three, []int{api.MaxPlace + 1}, api.ErrRange},
		{"an ask at the first number", three, []int{math.MinInt}, api.ErrRange},
		{"an ask at the last number", three, []int{math.MaxInt}, api.ErrRange},
		{"only the first ask is below 0", three, with(full, 0, -1), api.ErrRange},
		{"only the middle ask is below 0", three, with(full, 10, -1), api.ErrRange},
		{"only the last ask is above MaxPlace", three, with(full, api.MaxMsgs-1, api.MaxPlace+1), api.ErrRange},
		{"a server and an ask", with(three, 0, -1), with(full, 0, api.MaxPlace+1), api.ErrRange},
		{"from the first number to the last", []int{math.MinInt, math.MaxInt}, []int{math.MaxInt, math.MinInt}, api.ErrRange},
		{"no server, and too many asks", nil, over, api.ErrNone},
		{"no server, and an ask below 0", nil, []int{-1}, api.ErrNone},
		{"no server, too many asks, and one below 0", nil, with(over, 0, -1), api.ErrNone},
		{"too many servers, and one below 0", []int{-1, 0, 12, 4}, full, api.ErrFull},
		{"too many servers, and only the last above MaxPlace", []int{3, 0, 12, 13}, full, api.ErrFull},
		{"too many servers, and an ask below 0", []int{3, 0, 12, 4}, with(full, 0, -1), api.ErrFull},
		{"too many asks, and one below 0", three, with(over, 0, -1), api.ErrFull},
		{"too many asks, and only the last above MaxPlace", three, with(over, api.MaxMsgs, api.MaxPlace+1), api.ErrFull},
		{"too many asks, and a server below 0", with(three, 0, -1), over, api.ErrFull},
	}
	for _, c := range cases {
		t.Run(c.name, func(t *testing.T) {
			if got := plain.Told(serve.Check(c.servers, c.asks)); got != c.want {
				t.Errorf("Check told %v, want %v", got, c.want)
			}
			double, at, err := serve.Double(c.servers, c.asks)
			if got := plain.Told(err); got != c.want {
				t.Errorf("Double told %v, want %v", got, c.want)
			}
			near, there, err := serve.Near(c.servers, c.asks)
			if got := plain.Told(err); got != c.want {
				t.Errorf("Near told %v, want %v", got, c.want)
			}
			least, err := serve.Least(c.servers, c.asks)
			if got := plain.Told(err); got != c.want {
				t.Errorf("Least told %v, want %v", got, c.want)
			}
			if c.want != api.OK && (double != 0 || len(at) != 0 || near != 0 || len(there) != 0 || least != 0) {
				t.Errorf("beside an error told %d %v, %d %v, %d", double, at, near, there, least)
			}
		})
	}
}

// stepByStep lets the nearest one on each side go one step towards an ask, until one is there.
func stepByStep(servers, asks []int) ended {
	e := ended{0, slices.Clone(servers)}
	for _, ask := range asks {
		for !slices.Contains(e.at, ask) {
			left, right := sides(e.at, ask)
			if left >= 0 {
				e.at[left]++
				e.went++
			}
			if right >= 0 {
				e.at[right]--
				e.went++
			}
		}
	}
	slices.Sort(e.at)
	return e
}

// sides gives who is nearest to an ask on its left and on its right; -1 where nobody is.
func sides(at []int, ask int) (left, right int) {
	left, right = -1, -1
	for i, place := range at {
		if place < ask && (left < 0 || place > at[left]) {
			left = i
		}
		if place > ask && (right < 0 || place < at[right]) {
			right = i
		}
	}
	return left, right
}

// byWords goes by the words of the promise, case by case.
func byWords(servers, asks []int) ended {
	e := ended{0, slices.Clone(servers)}
	for _, ask := range asks {
		left, right := sides(e.at, ask)
		switch {
		case slices.Max(e.at) < ask:
			e.went += ask - e.at[left]
			e.at[left] = ask
		case slices.Min(e.at) > ask:
			e.went += e.at[right] - ask
			e.at[right] = ask
		case !slices.Contains(e.at, ask):
			far := min(ask-e.at[left], e.at[right]-ask)
			e.at[left], e.at[right], e.went = e.at[left]+far, e.at[right]-far, e.went+2*far
		}
	}
	slices.Sort(e.at)
	return e
}

// aroundAndAround looks for the nearest one ever farther around an ask, on the left first.
func aroundAndAround(servers, asks []int) ended {
	e := ended{0, slices.Clone(servers)}
	for _, ask := range asks {
		found, far := -1, 0
		for ; found < 0; far++ {
			found = slices.Index(e.at, ask-far)
			if found < 0 {
				found = slices.Index(e.at, ask+far)
			}
		}
		e.at[found] = ask
		e.went += far - 1
	}
	slices.Sort(e.at)
	return e
}

// shared finds the least cost over all ways to share the asks out among the servers, each of whom goes from one of its asks to the next.
func shared(servers, asks []int) int {
	if len(asks) == 0 {
		return 0
	}
	best := math.MaxInt
	for i, place := range servers {
		far := asks[0] - place
		if far < 0 {
			far = -far
		}
		best = min(best, far+shared(with(servers, i, asks[0]), asks[1:]))
	}
	return best
}

// stands gives all places, rising, at which so many servers may be.
func stands(many int) [][]int {
	all := [][]int{nil}
	for range many {
		var more [][]int
		for _, stand := range all {
			for place := range api.MaxPlace + 1 {
				if len(stand) == 0 || place >= stand[len(stand)-1] {
					more = append(more, append(slices.Clone(stand), place))
				}
			}
		}
		all = more
	}
	return all
}

// apart tells how far all go from some places to others, both rising: the first to the first, and so on.
func apart(from, to []int) int {
	sum := 0
	for i := range from {
		sum += max(from[i]-to[i], to[i]-from[i])
	}
	return sum
}

// fromTheEnd finds the least cost from the last ask back to the first, where all servers may go wherever they like for each ask.
func fromTheEnd(servers, asks []int) int {
	all := stands(len(servers))
	later := make([]int, len(all))
	for i := len(asks) - 1; i >= 0; i-- {
		now := make([]int, len(all))
		for from := range all {
			now[from] = cheapest(all, later, all[from], asks[i])
		}
		later = now
	}
	return later[slices.IndexFunc(all, func(stand []int) bool { return slices.Equal(stand, slices.Sorted(slices.Values(servers))) })]
}

// cheapest tells the least that it costs to go from some places to others, one of which is asked for, and on from there.
func cheapest(all [][]int, later []int, from []int, ask int) int {
	best := math.MaxInt
	for to, stand := range all {
		if slices.Contains(stand, ask) {
			best = min(best, apart(from, stand)+later[to])
		}
	}
	return best
}

// compare holds Double against stepByStep and byWords, and Near against aroundAndAround.
func compare(t *testing.T, servers, asks []int) {
	t.Helper()
	went, at, err := serve.Double(servers, asks)
	for _, want := range []ended{stepByStep(servers, asks), byWords(servers, asks)} {
		if err != nil || went != want.went || !slices.Equal(at, want.at) {
			t.Fatalf("Double(%v, %v): got %d %v %v, want %v", servers, asks, went, at, err, want)
		}
	}
	went, at, err = serve.Near(servers, asks)
	if want := aroundAndAround(servers, asks); err != nil || went != want.went || !slices.Equal(at, want.at) {
		t.Fatalf("Near(%v, %v): got %d %v %v, want %v", servers, asks, went, at, err, want)
	}
}

// compareLeast holds Least against what another way has found.
func compareLeast(t *testing.T, servers, asks []int, want int) {
	t.Helper()
	if least, err := serve.Least(servers, asks); err != nil || least != want {
		t.Fatalf("Least(%v, %v): got %d %v, want %d", servers, asks, least, err, want)
	}
}

// listsOf gives all lists of up to so many places below a bound.
func listsOf(most, below int) [][]int {
	all := [][]int{nil}
	for from := 0; most > 0; most-- {
		till := len(all)
		for ; from < till; from++ {
			for place := range below {
				all = append(all, append(slices.Clone(all[from]), place))
			}
		}
	}
	return all
}

func TestAllSmall(t *testing.T) {
	for _, size := range [][2]int{{2, 6}, {3, 4}, {5, 3}} {
		for _, servers := range listsOf(api.MaxServers, size[1])[1:] {
			for _, asks := range listsOf(size[0], size[1]) {
				compare(t, servers, asks)
				compareLeast(t, servers, asks, shared(servers, asks))
			}
		}
	}
}

func TestAnywhereToAnywhere(t *testing.T) {
	for many := 1; many <= api.MaxServers; many++ {
		for _, servers := range stands(many) {
			for ask := range api.MaxPlace + 1 {
				compare(t, servers, []int{ask})
				compareLeast(t, servers, []int{ask}, shared(servers, []int{ask}))
			}
		}
	}
}

// scattered gives numbers that jump about below a bound, the same ones for the same seed.
func scattered(seed, many, below int) []int {
	list := make([]int, many)
	state := uint64(seed) + 1
	for i := range list {
		state = state*6364136223846793005 + 1442695040888963407
		list[i] = int(state >> 33 % uint64(below))
	}
	return list
}

// long gives one server or some, and asks, as many as there may be or some fewer: of some seeds they jump about on all the line, of others near one end of it, and of others they go around a few places.
func long(seed int) (servers, asks []int) {
	servers = scattered(seed+7_000, 1+seed%api.MaxServers, api.MaxPlace+1)
	asks = scattered(seed, api.MaxMsgs-seed/3%3, []int{13, 5, 8, 3}[seed/9%4])
	for i := range asks {
		switch seed / 36 % 3 {
		case 1:
			asks[i] = api.MaxPlace - asks[i]
		case 2:
			asks[i] = asks[i] * 5 % (api.MaxPlace + 1)
		}
	}
	return servers, asks
}

func TestLong(t *testing.T) {
	for seed := range 3_000 {
		servers, asks := long(seed)
		compare(t, servers, asks)
	}
	for seed := range 216 {
		servers, asks := long(seed)
		compareLeast(t, servers, asks, fromTheEnd(servers, asks))
	}
}

// spread tells how far each of some places is from each other one, together.
func spread(places []int) int {
	sum := 0
	for i := range places {
		for _, other := range places[:i] {
			sum += max(places[i]-other, other-places[i])
		}
	}
	return sum
}

// To go from both sides costs no more than the least as often as there are servers, and as much as they have come nearer to each other. And neither way goes less far than the least.
func TestDoubleIsNotMuchWorse(t *testing.T) {
	for seed := range 3_000 {
		servers, asks := long(seed)
		double, at, _ := serve.Double(servers, asks)
		near, _, _ := serve.Near(servers, asks)
		least, _ := serve.Least(servers, asks)
		most := len(servers)*least + spread(servers) - spread(at)
		if double > most || least > min(double, near) {
			t.Fatalf("%v, %v: the least is %d, from both sides %d, which may be %d, the nearest %d", servers, asks, least, double, most, near)
		}
	}
}

// mirrored gives places as they are from the other end.
func mirrored(places []int) []int {
	list := slices.Clone(places)
	for i := range list {
		list[i] = api.MaxPlace - list[i]
	}
	return list
}

// From the other end all is the same, but for the nearest one of two that are as near.
func TestFromTheOtherEnd(t *testing.T) {
	for seed := range 216 {
		servers, asks := long(seed)
		double, at, _ := serve.Double(servers, asks)
		least, _ := serve.Least(servers, asks)
		other, there, _ := serve.Double(mirrored(servers), mirrored(asks))
		there = slices.Sorted(slices.Values(mirrored(there)))
		if other != double || !slices.Equal(there, at) {
			t.Fatalf("Double(%v, %v): %d %v, but from the other end %d %v", servers, asks, double, at, other, there)
		}
		compareLeast(t, mirrored(servers), mirrored(asks), least)
	}
}

// Who is handed in first does not matter.
func TestServersAreAllOne(t *testing.T) {
	for seed := range 216 {
		servers, asks := long(seed)
		want := answers(servers, asks)
		for range servers {
			servers = append(slices.Clone(servers[1:]), servers[0])
			backwards := slices.Clone(servers)
			slices.Reverse(backwards)
			for _, other := range [][]int{servers, backwards} {
				if got := answers(other, asks); got != want {
					t.Fatalf("%v, %v: got %s, want %s", other, asks, got, want)
				}
			}
		}
	}
}

// answers writes what all calls answer.
func answers(servers, asks []int) string {
	check := serve.Check(servers, asks)
	double, at, first := serve.Double(servers, asks)
	near, there, second := serve.Near(servers, asks)
	least, third := serve.Least(servers, asks)
	return fmt.Sprintf("%v %d %v %v %d %v %v %d %v", check, double, at, first, near, there, second, least, third)
}

func TestListsAreLeftAlone(t *testing.T) {
	cases := []struct {
		name          string
		servers, asks []int
	}{
		{"well", []int{9, 0, 4}, []int{3, 8, 3, 12}},
		{"nobody goes", []int{9, 0}, []int{0, 9, 0}},
		{"no ask", []int{9, 0, 4}, nil},
		{"MaxMsgs asks", []int{9, 0, 4}, toAndFro(5, 0, 12, 5, 7)},
		{"ErrNone", nil, []int{3, 8}},
		{"ErrFull by servers", []int{9, 0, 4, 3}, []int{3, 8}},
		{"ErrFull by asks", []int{9, 0, 4}, same(api.MaxMsgs+1, 3)},
		{"ErrRange by a server", []int{9, 0, -1}, []int{3, 8}},
		{"ErrRange by an ask", []int{9, 0, 4}, []int{3, api.MaxPlace + 1}},
	}
	for _, c := range cases {
		t.Run(c.name, func(t *testing.T) {
			wholeServers := append(slices.Clone(c.servers), 11, 12, 13)
			wholeAsks := append(slices.Clone(c.asks), 11, 12, 13)
			wasServers, wasAsks := slices.Clone(wholeServers), slices.Clone(wholeAsks)
			servers, asks := wholeServers[:len(c.servers)], wholeAsks[:len(c.asks)]
			serve.Check(servers, asks)
			serve.Least(servers, asks)
			_, at, _ := serve.Double(servers, asks)
			_, there, _ := serve.Near(servers, asks)
			for _, written := range [][]int{at[:cap(at)], there[:cap(there)]} {
				for i := range written {
					written[i] = -7
				}
			}
			if !slices.Equal(wholeServers, wasServers) || !slices.Equal(wholeAsks, wasAsks) {
				t.Errorf("the lists were %v %v, are %v %v", wasServers, wasAsks, wholeServers, wholeAsks)
			}
		})
	}
}

func TestBehindTheLengthNothingIsRead(t *testing.T) {
	servers := []int{9, 2, 5, 3, -1}
	asks := []int{4, 9, -1}
	for _, c := range []struct {
		servers, asks int
		want          string
	}{
		{3, 2, "<nil> 2 [3 4 9] <nil> 1 [2 4 9] <nil> 1 <nil>"},
		{2, 2, "<nil> 6 [4 9] <nil> 2 [4 9] <nil> 2 <nil>"},
		{1, 2, "<nil> 10 [9] <nil> 10 [9] <nil> 10 <nil>"},
		{1, 1, "<nil> 5 [4] <nil> 5 [4] <nil> 5 <nil>"},
		{3, 0, "<nil> 0 [2 5 9] <nil> 0 [2 5 9] <nil> 0 <nil>"},
		{0, 2, "ErrNone 0 [] ErrNone 0 [] ErrNone 0 ErrNone"},
		{4, 2, "ErrFull 0 [] ErrFull 0 [] ErrFull 0 ErrFull"},
		{3, 3, "ErrRange 0 [] ErrRange 0 [] ErrRange 0 ErrRange"},
	} {
		if got := answers(servers[:c.servers], asks[:c.asks]); got != c.want {
			t.Errorf("%v, %v: got %s, want %s", servers[:c.servers], asks[:c.asks], got, c.want)
		}
	}
}

func TestAnswersAreTheCallers(t *testing.T) {
	for name, call := range map[string]func(servers, asks []int) (int, []int, error){"Double": serve.Double, "Near": serve.Near} {
		for _, servers := range [][]int{{4}, {0, 4}, {0, 4, 9}, {9, 0, 4}} {
			for _, asks := range [][]int{nil, {0}, {3, 8, 3, 12}} {
				handed, handedAsks := slices.Clone(servers), slices.Clone(asks)
				_, other, _ := call(handed, handedAsks)
				_, at, _ := call(handed, handedAsks)
				want := slices.Clone(at)
				for _, written := range [][]int{other[:cap(other)], handed, handedAsks} {
					for i := range written {
						written[i] = -7
					}
				}
				if !slices.Equal(at, want) {
					t.Errorf("%s: an answer shares memory: %v, want %v", name, at, want)
				}
				if _, again, _ := call(servers, asks); !slices.Equal(again, want) {
					t.Errorf("%s: an answer is kept: %v, want %v", name, again, want)
				}
			}
		}
	}
}

func TestNothingIsKeptBetweenCalls(t *testing.T) {
	servers, asks := []int{9, 0, 4}, []int{3, 8, 3, 12}
	want := answers(servers, asks)
	for _, other := range [][]int{nil, {5}, {12, 0}, {9, 0, 4}, {1, 2, 3, 4}, {-1}} {
		for _, ask := range [][]int{nil, {3}, {13}, toAndFro(10, 0, 12), same(api.MaxMsgs+1, 3)} {
			answers(other, ask)
			if got := answers(servers, asks); got != want {
				t.Errorf("behind %v, %v got %s, want %s", other, ask, got, want)
			}
		}
	}
}
