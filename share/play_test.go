package share_test

import (
	"math/rand"
	"testing"

	"escapement/api"
	"escapement/share"
)

// played is a server that is played: what is left of its budget, and the tick at which its period ends, the first one where it begins.
type played struct {
	api.Part
	left, ends int
}

// turn begins a period, if one ends at a tick; it tells whether the server had run for its whole budget in that.
func (s *played) turn(tick int) bool {
	if tick != s.ends {
		return true
	}
	whole := s.left == 0
	s.left, s.ends = s.Budget, tick+s.Period
	return whole
}

// keeps plays servers for so many ticks, each one from where it begins: each tick the one with budget left whose period ends first runs, the first one of several. It tells whether all have run for their whole budgets by the end of each period that ends till then.
func keeps(l []api.Part, begins []int, ticks int) bool {
	var all [api.MaxParts]played
	for i, p := range l {
		all[i] = played{Part: p, ends: begins[i]}
	}
	list := all[:len(l)]
	for tick := range ticks + 1 {
		first := -1
		for i := range list {
			s := &list[i]
			if !s.turn(tick) {
				return false
			}
			if s.left > 0 && (first < 0 || s.ends < list[first].ends) {
				first = i
			}
		}
		if first >= 0 {
			list[first].left--
		}
	}
	return true
}

// hyper is the least count of ticks above 0 that all Periods divide.
func hyper(l []api.Part) int {
	n := 1
	for _, p := range l {
		step := n
		for n%p.Period != 0 {
			n += step
		}
	}
	return n
}

// wantPlayed fails the test unless servers keep their budgets just if they pass: those that pass in each of some ways to begin, those that do not pass beginning at once. It answers whether they pass.
func wantPlayed(t *testing.T, l []api.Part, ways [][]int) bool {
	t.Helper()
	ticks := hyper(l)
	if share.Test(l) != api.OK {
		if keeps(l, make([]int, len(l)), ticks) {
			t.Fatalf("%v do not pass, but keep their budgets", l)
		}
		return false
	}
	for _, begins := range ways {
		latest := 0
		for _, begin := range begins {
			latest = max(latest, begin)
		}
		if !keeps(l, begins, latest+2*ticks) {
			t.Fatalf("%v pass, but do not keep their budgets from %v on", l, begins)
		}
	}
	return true
}

// everyBegin are all ways of so many servers to begin up to a tick.
func everyBegin(many, latest int) [][]int {
	ways := [][]int{{}}
	for range many {
		var more [][]int
		for _, way := range ways {
			for begin := range latest + 1 {
				more = append(more, append(append([]int{}, way...), begin))
			}
		}
		ways = more
	}
	return ways
}

// P11.3: small servers, in every order, and in every way to begin.
func TestPlayEverySmall(t *testing.T) {
	all := small(6)
	one, two, three := everyBegin(1, 12), everyBegin(2, 12), everyBegin(3, 6)
	many := [2]int{}
	count := func(passes bool) {
		if passes {
			many[0]++
		} else {
			many[1]++
		}
	}
	for _, p := range all {
		count(wantPlayed(t, []api.Part{p}, one))
		for _, q := range all {
			count(wantPlayed(t, []api.Part{p, q}, two))
			for _, r := range all {
				count(wantPlayed(t, []api.Part{p, q, r}, three))
			}
		}
	}
	if many[0] < 200 || many[1] < 5000 {
		t.Errorf("%d pass, %d don't", many[0], many[1])
	}
}

// P11.3: four small servers, in every order, and in every way to begin.
func TestPlayFourSmall(t *testing.T) {
	all := servers(1, 2, 1, 3, 1, 4, 2, 4, 1, 6, 1, 8)
	ways := everyBegin(4, 4)
	many := 0
	for _, p := range all {
		for _, q := range all {
			for _, r := range all {
				for _, s := range all {
					if wantPlayed(t, []api.Part{p, q, r, s}, ways) {
						many++
					}
				}
			}
		}
	}
	if many < 200 || many > 1000 {
		t.Errorf("%d pass", many)
	}
}

// P11.3: servers of all sizes, beginning whenever they will.
func TestPlaySome(t *testing.T) {
	random := rand.New(rand.NewSource(113))
	many := [2]int{}
	for range 3000 {
		l := someServers(random)
		if hyper(l) > 20000 {
			continue
		}
		ways := [][]int{make([]int, len(l))}
		for range 4 {
			begins := make([]int, len(l))
			for i := range begins {
				begins[i] = random.Intn(1 + random.Intn(1000))
			}
			ways = append(ways, begins)
		}
		if wantPlayed(t, l, ways) {
			many[0]++
		} else {
			many[1]++
		}
	}
	if many[0] < 500 || many[1] < 500 {
		t.Errorf("%d pass, %d don't", many[0], many[1])
	}
}

// P11.3: servers that share just 1 have no tick to lose, whichever Periods they have.
func TestPlayWhole(t *testing.T) {
	random := rand.New(rand.NewSource(114))
	for _, l := range [][]api.Part{
		servers(1, 1), servers(64, 64), servers(63, 64, 1, 64), servers(1, 2, 1, 3, 1, 6), servers(1, 2, 1, 3, 1, 7, 1, 42),
		servers(16, 64, 1, 4, 15, 60, 2, 8), servers(1, 2, 1, 4, 1, 8, 1, 8), servers(5, 9, 7, 21, 1, 18, 1, 18),
		servers(29, 58, 1, 4, 3, 12), servers(50, 60, 1, 10, 1, 15),
	} {
		wantSum(t, l, 1, 1)
		ways := everyBegin(len(l), 1)
		for range 20 {
			begins := make([]int, len(l))
			for i := range begins {
				begins[i] = random.Intn(200)
			}
			ways = append(ways, begins)
		}
		if !wantPlayed(t, l, ways) {
			t.Errorf("%v do not pass", l)
		}
	}
}

// P11.3: four Periods without a common divisor: the sums that are nearest to 1.
func TestPlayNearest(t *testing.T) {
	if wantPlayed(t, leastAbove(), nil) {
		t.Errorf("%v pass", leastAbove())
	}
	if !wantPlayed(t, mostBelow(), [][]int{{0, 0, 0, 0}, {3, 56, 0, 1000}}) {
		t.Errorf("%v do not pass", mostBelow())
	}
}
