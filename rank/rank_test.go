package rank_test

import (
	"fmt"
	"math"
	"math/rand"
	"slices"
	"testing"

	"escapement/api"
	"escapement/rank"
)

// ids is how many there may be: 0 to 63.
const ids = 64

// noIds are numbers of ids that there may not be.
var noIds = []int{-1, -2, -64, ids, ids + 1, 2 * ids, 256, 1 << 32, math.MinInt, math.MaxInt}

// keys are some at the edges, and between them.
var keys = []int{math.MinInt, math.MinInt + 1, -(1 << 32), -64, -1, 0, 1, 2, 63, 64, 1 << 32, api.MaxTick, math.MaxInt - 1, math.MaxInt}

// item is an id with its key, and whether there is one.
type item struct {
	id, key int
	is      bool
}

// same fails the test unless what a call answered is what is wanted.
func same[T comparable](t *testing.T, call string, got, want T) {
	t.Helper()
	if got != want {
		t.Errorf("%s: %v, want %v", call, got, want)
	}
}

// sameIds fails the test unless a rank's ids in order are those wanted.
func sameIds(t *testing.T, r *rank.Rank, want ...int) {
	t.Helper()
	if got := r.Ids(); !slices.Equal(got, want) {
		t.Errorf("Ids(): %v, want %v", got, want)
	}
}

func first(r *rank.Rank) item {
	id, key, is := r.First()
	return item{id, key, is}
}

func pop(r *rank.Rank) item {
	id, key, is := r.Pop()
	return item{id, key, is}
}

// keyOf is what Key answers, beside the id that is asked for, if that is there.
func keyOf(r *rank.Rank, id int) item {
	key, is := r.Key(id)
	if !is {
		return item{0, key, is}
	}
	return item{id, key, is}
}

// put puts ids in, each with the key behind it.
func put(t *testing.T, r *rank.Rank, l ...int) *rank.Rank {
	t.Helper()
	for i := 0; i < len(l); i += 2 {
		same(t, fmt.Sprintf("Put(%d, %d)", l[i], l[i+1]), r.Put(l[i], l[i+1]), api.OK)
	}
	return r
}

// model is what a rank is to be: ids with their keys, without any order of its own.
type model map[int]int

// order is all that is there: by keys, and by ids among the same ones.
func (m model) order() []item {
	var l []item
	for id, key := range m {
		l = append(l, item{id, key, true})
	}
	slices.SortFunc(l, func(a, b item) int {
		if a.key < b.key || a.key == b.key && a.id < b.id {
			return -1
		}
		return 1
	})
	return l
}

// first is the first one of the model; nothing without one.
func (m model) first() item {
	if len(m) == 0 {
		return item{}
	}
	return m.order()[0]
}

// key is what keyOf is to be.
func (m model) key(id int) item {
	if key, is := m[id]; is {
		return item{id, key, true}
	}
	return item{}
}

// put, lower are what the calls answer, and do to the model.
func (m model) put(id, key int) api.Errno {
	if id < 0 || id >= ids {
		return api.ErrRange
	}
	if _, is := m[id]; is {
		return api.ErrBusy
	}
	m[id] = key
	return api.OK
}

func (m model) lower(id, key int) api.Errno {
	if id < 0 || id >= ids {
		return api.ErrRange
	}
	was, is := m[id]
	if !is {
		return api.ErrEmpty
	}
	if key > was {
		return api.ErrArg
	}
	m[id] = key
	return api.OK
}

// sameAll fails the test unless all that a rank can be asked without changing it is what the model says.
func sameAll(t *testing.T, when string, r *rank.Rank, m model) {
	t.Helper()
	order := m.order()
	var want []int
	for _, x := range order {
		want = append(want, x.id)
	}
	if got := r.Ids(); !slices.Equal(got, want) {
		t.Fatalf("%s: Ids(): %v, want %v", when, got, want)
	}
	if got := r.Len(); got != len(m) {
		t.Fatalf("%s: Len(): %d, want %d", when, got, len(m))
	}
	if got := first(r); got != m.first() {
		t.Fatalf("%s: First(): %v, want %v", when, got, m.first())
	}
	for id := -1; id <= ids; id++ {
		if got, want := keyOf(r, id), m.key(id); got != want {
			t.Fatalf("%s: Key(%d): %v, want %v", when, id, got, want)
		}
	}
}

// The chapter's examples.
func TestExamples(t *testing.T) {
	r := put(t, rank.New(), 5, 9, 3, 9, 7, 4)
	sameIds(t, r, 7, 3, 5)

	r = put(t, rank.New(), 5, 9, 3, 9, 7, 4)
	same(t, "Put(5, 1)", r.Put(5, 1), api.ErrBusy)
	same(t, "Lower(5, 10)", r.Lower(5, 10), api.ErrArg)
	same(t, "Lower(5, 2)", r.Lower(5, 2), api.OK)
	same(t, "First()", first(r), item{5, 2, true})
	same(t, "Remove(5)", r.Remove(5), true)
	same(t, "Remove(5)", r.Remove(5), false)
	same(t, "Pop()", pop(r), item{7, 4, true})
	same(t, "Len()", r.Len(), 1)
	sameIds(t, r, 3)
}

// Of a rank that is none all calls tell so, and it stays none.
func TestNone(t *testing.T) {
	for name, r := range map[string]*rank.Rank{"nil": nil, "zero": {}, "new": new(rank.Rank)} {
		for range 2 {
			for _, id := range slices.Concat([]int{0, 1, ids - 1}, noIds) {
				same(t, name+": Put", r.Put(id, 1), api.ErrNil)
				same(t, name+": Lower", r.Lower(id, 0), api.ErrNil)
				same(t, name+": Remove", r.Remove(id), false)
				same(t, name+": Key", keyOf(r, id), item{})
			}
			same(t, name+": First", first(r), item{})
			same(t, name+": Pop", pop(r), item{})
			same(t, name+": Len", r.Len(), 0)
			same(t, name+": Ids", len(r.Ids()), 0)
		}
	}
}

// A rank without ids tells nothing, whether it is new or all were taken out.
func TestEmpty(t *testing.T) {
	popped := put(t, rank.New(), 0, 7, 63, 7)
	pop(popped)
	pop(popped)
	removed := put(t, rank.New(), 0, 7, 63, 7)
	removed.Remove(0)
	removed.Remove(63)
	for name, r := range map[string]*rank.Rank{"new": rank.New(), "popped": popped, "removed": removed} {
		for range 2 {
			same(t, name+": Pop()", pop(r), item{})
			for id := range ids {
				same(t, fmt.Sprintf("%s: Remove(%d)", name, id), r.Remove(id), false)
				same(t, fmt.Sprintf("%s: Lower(%d, ..)", name, id), r.Lower(id, math.MinInt), api.ErrEmpty)
			}
			sameAll(t, name, r, model{})
		}
		put(t, r, 9, -3)
		sameAll(t, name+", and one put", r, model{9: -3})
	}
}

// P2.1: New is another rank each time.
func TestNewIsAnother(t *testing.T) {
	a, b := put(t, rank.New(), 1, 1, 2, 2), rank.New()
	sameAll(t, "the other one", b, model{})
	put(t, b, 1, 9)
	same(t, "Lower(1, 8)", b.Lower(1, 8), api.OK)
	same(t, "Remove(2)", b.Remove(2), false)
	sameAll(t, "one", a, model{1: 1, 2: 2})
	pop(a)
	sameAll(t, "the other one", b, model{1: 8})
}

// P2.1: every id from 0 to 63 may be put, and none beside these.
func TestPutIds(t *testing.T) {
	for id := range ids {
		r := put(t, rank.New(), id, -5)
		sameAll(t, fmt.Sprintf("Put(%d, -5)", id), r, model{id: -5})
		same(t, "again, lower", r.Put(id, -6), api.ErrBusy)
		same(t, "again", r.Put(id, -5), api.ErrBusy)
		same(t, "again, higher", r.Put(id, 0), api.ErrBusy)
		sameAll(t, fmt.Sprintf("Put(%d, ..) again", id), r, model{id: -5})
		same(t, "Remove", r.Remove(id), true)
		put(t, r, id, 12)
		sameAll(t, fmt.Sprintf("Remove(%d), Put", id), r, model{id: 12})
		same(t, "Pop", pop(r), item{id, 12, true})
		put(t, r, id, 13)
		sameAll(t, fmt.Sprintf("Pop(%d), Put", id), r, model{id: 13})
	}
	r := put(t, rank.New(), 0, 4, 63, 4, 7, 4)
	for _, id := range noIds {
		for _, key := range keys {
			same(t, fmt.Sprintf("Put(%d, %d)", id, key), r.Put(id, key), api.ErrRange)
		}
	}
	sameAll(t, "behind ErrRange", r, model{0: 4, 63: 4, 7: 4})
}

// P2.1: every int may be a key.
func TestPutKeys(t *testing.T) {
	for _, a := range keys {
		sameAll(t, fmt.Sprintf("key %d", a), put(t, rank.New(), 8, a), model{8: a})
		for _, b := range keys {
			sameAll(t, fmt.Sprintf("keys %d, %d", a, b), put(t, rank.New(), 8, a, 6, b), model{8: a, 6: b})
		}
	}
	r, m := rank.New(), model{}
	for i, key := range keys {
		id := (i * 37) % ids
		put(t, r, id, key)
		m[id] = key
	}
	sameAll(t, "all keys", r, m)
}

// P2.1
func TestLower(t *testing.T) {
	for _, was := range keys {
		for _, key := range keys {
			r := put(t, rank.New(), 40, was, 41, 0)
			m := model{40: was, 41: 0}
			call := fmt.Sprintf("Put(40, %d), Lower(40, %d)", was, key)
			want := api.OK
			if key > was {
				want = api.ErrArg
			} else {
				m[40] = key
			}
			same(t, call, r.Lower(40, key), want)
			sameAll(t, call, r, m)
		}
	}
}

// P2.1: which errors Lower tells, and in which order.
func TestLowerErrors(t *testing.T) {
	r := put(t, rank.New(), 0, 4, 63, -4)
	for _, key := range keys {
		for _, id := range noIds {
			same(t, fmt.Sprintf("Lower(%d, %d)", id, key), r.Lower(id, key), api.ErrRange)
		}
		for _, id := range []int{1, 2, 31, 32, 62} {
			same(t, fmt.Sprintf("Lower(%d, %d)", id, key), r.Lower(id, key), api.ErrEmpty)
		}
	}
	same(t, "Lower(0, 5)", r.Lower(0, 5), api.ErrArg)
	same(t, "Lower(63, -3)", r.Lower(63, -3), api.ErrArg)
	sameAll(t, "behind errors", r, model{0: 4, 63: -4})
	same(t, "Lower(0, 4)", r.Lower(0, 4), api.OK)
	same(t, "Lower(63, -4)", r.Lower(63, -4), api.OK)
	sameAll(t, "lowered to themselves", r, model{0: 4, 63: -4})
	same(t, "Lower(0, -4)", r.Lower(0, -4), api.OK)
	same(t, "Lower(0, -3)", r.Lower(0, -3), api.ErrArg)
	sameAll(t, "lowered to the same one", r, model{0: -4, 63: -4})
	r.Remove(0)
	same(t, "Lower(0, -5)", r.Lower(0, -5), api.ErrEmpty)
	pop(r)
	same(t, "Lower(63, -5)", r.Lower(63, -5), api.ErrEmpty)
}

// P2.2, P2.3: ids that there may not be are not there.
func TestRemoveAndKeyOfNoIds(t *testing.T) {
	r, m := rank.New(), model{}
	for id := range ids {
		put(t, r, id, 0)
		m[id] = 0
	}
	for _, id := range noIds {
		same(t, fmt.Sprintf("Remove(%d)", id), r.Remove(id), false)
		same(t, fmt.Sprintf("Key(%d)", id), keyOf(r, id), item{})
	}
	sameAll(t, "behind Remove of no ids", r, m)
}

// P2.1 to P2.3: a rank that is full.
func TestFull(t *testing.T) {
	for _, step := range []int{1, 5, 63} {
		r, m := rank.New(), model{}
		for i := range ids {
			id := (i * step) % ids
			put(t, r, id, i/3)
			m[id] = i / 3
		}
		for id := range ids {
			same(t, "Put into a full one", r.Put(id, -1), api.ErrBusy)
		}
		same(t, "Put(64, ..) into a full one", r.Put(ids, -1), api.ErrRange)
		sameAll(t, "full", r, m)
		for _, x := range m.order() {
			same(t, "First()", first(r), x)
			same(t, "Pop()", pop(r), x)
			delete(m, x.id)
			sameAll(t, "popped", r, m)
		}
		same(t, "Pop() of none", pop(r), item{})
	}
}

// P2.2: whichever one of many is taken out, wherever it is, the others stay in order.
func TestRemoveEach(t *testing.T) {
	for seed := range 20 {
		random := rand.New(rand.NewSource(int64(seed)))
		order, worth := random.Perm(ids), random.Perm(ids)
		for gone := range ids {
			r, m := rank.New(), model{}
			for _, id := range order {
				put(t, r, id, worth[id]/(1+seed%3))
				m[id] = worth[id] / (1 + seed%3)
			}
			same(t, "Remove", r.Remove(gone), true)
			delete(m, gone)
			sameAll(t, fmt.Sprintf("Remove(%d)", gone), r, m)
			for _, x := range m.order() {
				same(t, "Pop()", pop(r), x)
			}
		}
	}
}

// P2.3: asking changes nothing.
func TestAskingChangesNothing(t *testing.T) {
	r, m := rank.New(), model{}
	for i := range 20 {
		id, key := (i*11)%ids, (i*7)%5
		put(t, r, id, key)
		m[id] = key
		for range 3 {
			sameAll(t, "asked again", r, m)
		}
	}
}

// P2.4: what is answered is new memory, its spare room too.
func TestIdsAreNew(t *testing.T) {
	r := put(t, rank.New(), 5, 9, 3, 9, 7, 4, 1, 20)
	m := model{5: 9, 3: 9, 7: 4, 1: 20}
	a, b := r.Ids(), r.Ids()
	for i := range a {
		a[i] = 62 - i
	}
	for i := range a[:cap(a)] {
		a[:cap(a)][i] = 50 + i
	}
	if want := []int{7, 3, 5, 1}; !slices.Equal(b, want) {
		t.Errorf("Ids() are %v when others are changed, want %v", b, want)
	}
	sameAll(t, "behind a change of what was answered", r, m)
	r.Remove(3)
	put(t, r, 2, 0)
	if want := []int{7, 3, 5, 1}; !slices.Equal(b, want) {
		t.Errorf("Ids() are %v when the rank has changed, want %v", b, want)
	}
}

// P2.4: an error changes nothing, not even of what comes later.
func TestErrorsChangeNothing(t *testing.T) {
	for size := range ids {
		r, m := rank.New(), model{}
		for i := range size {
			id, key := (i*19)%ids, (i*29)%31
			put(t, r, id, key)
			m[id] = key
		}
		for id := -1; id <= ids; id++ {
			if _, is := m[id]; is || id < 0 || id == ids {
				if e := r.Put(id, -1); e == api.OK {
					t.Errorf("Put(%d, -1): OK", id)
				}
			}
			if e := r.Lower(id, 32); e == api.OK {
				t.Errorf("Lower(%d, 32): OK", id)
			}
		}
		sameAll(t, "behind errors", r, m)
		for _, x := range m.order() {
			same(t, "Pop() behind errors", pop(r), x)
		}
		same(t, "Len() behind all", r.Len(), 0)
	}
}

// permutations does something with each order of 0 to n-1.
func permutations(n int, do func(l []int)) {
	l := make([]int, 0, n)
	var next func()
	next = func() {
		if len(l) == n {
			do(l)
			return
		}
		for i := range n {
			if !slices.Contains(l, i) {
				l = append(l, i)
				next()
				l = l[:len(l)-1]
			}
		}
	}
	next()
}

// P2.5, P2.6: all orders of putting, of keys that are apart, partly the same, all the same.
func TestOrdersOfPutting(t *testing.T) {
	for _, k := range [][]int{{10, 11, 12, 13, 14, 15}, {5, 5, 1, 1, 5, 1}, {0, 0, 0, 0, 0, 0}, {math.MaxInt, math.MinInt, 0, -1, math.MinInt, math.MaxInt}} {
		m := model{}
		for i, key := range k {
			m[i*9] = key
		}
		want := m.order()
		permutations(len(k), func(l []int) {
			r := rank.New()
			for _, i := range l {
				put(t, r, i*9, k[i])
			}
			sameAll(t, fmt.Sprint("put in the order ", l), r, m)
			for _, x := range want {
				same(t, fmt.Sprint("Pop(), put in the order ", l), pop(r), x)
			}
		})
	}
}

// P2.6: all orders of removing and lowering.
func TestOrdersOfRemovingAndLowering(t *testing.T) {
	m := model{1: 6, 3: 6, 10: 6, 11: 6, 12: 21, 20: 40, 22: 35}
	permutations(6, func(l []int) {
		r := put(t, rank.New(), 0, 0, 1, 6, 2, 5, 3, 7, 4, 1, 10, 20, 11, 30, 12, 21, 20, 40, 22, 35)
		for _, i := range l {
			switch i {
			case 0, 1, 2:
				same(t, "Remove", r.Remove(2*i), true)
			case 3:
				same(t, "Lower(10, 6)", r.Lower(10, 6), api.OK)
			case 4:
				same(t, "Lower(11, 6)", r.Lower(11, 6), api.OK)
			case 5:
				same(t, "Lower(3, 6)", r.Lower(3, 6), api.OK)
			}
		}
		sameAll(t, fmt.Sprint("in the order ", l), r, m)
		for _, x := range m.order() {
			same(t, fmt.Sprint("Pop() in the order ", l), pop(r), x)
		}
	})
}

// step does one thing, the same one, to a rank and to its model, and holds what both answer against each other.
func step(t *testing.T, random *rand.Rand, r *rank.Rank, m model, id, key int) string {
	t.Helper()
	switch random.Intn(8) {
	case 0, 1, 2:
		call := fmt.Sprintf("Put(%d, %d)", id, key)
		same(t, call, r.Put(id, key), m.put(id, key))
		return call
	case 3, 4, 5:
		call := fmt.Sprintf("Lower(%d, %d)", id, key)
		same(t, call, r.Lower(id, key), m.lower(id, key))
		return call
	case 6:
		_, was := m[id]
		delete(m, id)
		call := fmt.Sprintf("Remove(%d)", id)
		same(t, call, r.Remove(id), was)
		return call
	}
	was := m.first()
	delete(m, was.id)
	same(t, "Pop()", pop(r), was)
	return "Pop()"
}

// P2.1 to P2.6: rows of calls, the same ones each time, against the model: with few ids and with all, with few keys and with many.
func TestRowsOfCalls(t *testing.T) {
	for seed := range 60 {
		random := rand.New(rand.NewSource(int64(seed)))
		r, m := rank.New(), model{}
		some := []int{2, 9, 66}[seed%3]
		for range 400 {
			id := random.Intn(some) - seed%2
			key := random.Intn(7) - 3
			if seed%5 == 0 {
				key = keys[random.Intn(len(keys))]
			}
			if seed%5 == 1 {
				key = int(random.Uint64())
			}
			call := step(t, random, r, m, id, key)
			sameAll(t, fmt.Sprintf("row %d: %s", seed, call), r, m)
			if t.Failed() {
				return
			}
		}
		for _, x := range m.order() {
			same(t, "Pop() at the end", pop(r), x)
		}
	}
}
