package clock

import (
	"fmt"
	"math"
	"math/rand"
	"slices"
	"sync"
	"testing"

	"catchpit/api"
)

// most is chapter 15's 2^30.
const most = 1073741824

// due is a timer, with the time at which it is due.
type due struct {
	id int
	at int64
}

// timersOf tells what Timers goes through.
func timersOf(c *Clock) []due {
	var l []due
	for id, at := range c.Timers() {
		l = append(l, due{id, at})
	}
	return l
}

// model is what the chapter's words say of a clock: the time, and its timers, the one set last behind all others.
type model struct {
	now    int64
	timers []due
}

func (m *model) at(id int) int {
	return slices.IndexFunc(m.timers, func(d due) bool { return d.id == id })
}

func (m *model) set(id, after int) api.Errno {
	if after < 1 || after > most {
		return api.ErrArg
	}
	m.clear(id)
	m.timers = append(m.timers, due{id, m.now + int64(after)})
	return api.OK
}

func (m *model) clear(id int) api.Errno {
	at := m.at(id)
	if at < 0 {
		return api.ErrNone
	}
	m.timers = slices.Delete(m.timers, at, at+1)
	return api.OK
}

func (m *model) left(id int) (int, bool) {
	if at := m.at(id); at >= 0 {
		return int(m.timers[at].at - m.now), true
	}
	return 0, false
}

func (m *model) advance(n int) ([]int, api.Errno) {
	if n < 0 || n > most {
		return nil, api.ErrArg
	}
	m.now += int64(n)
	var fired []int
	for _, d := range m.list() {
		if d.at <= m.now {
			fired = append(fired, d.id)
			m.clear(d.id)
		}
	}
	return fired, api.OK
}

// list tells the timers in order: each stands behind as many as are due ahead of it.
func (m *model) list() []due {
	l := make([]due, len(m.timers))
	for _, d := range m.timers {
		place := 0
		for _, other := range m.timers {
			if other.at < d.at || other.at == d.at && other.id < d.id {
				place++
			}
		}
		l[place] = d
	}
	return l
}

// call is one call of a clock.
type call struct {
	name  string
	id, n int
}

func (c call) String() string {
	switch c.name {
	case "Set":
		return fmt.Sprintf("Set(%d, %d)", c.id, c.n)
	case "Clear":
		return fmt.Sprintf("Clear(%d)", c.id)
	}
	return fmt.Sprintf("Advance(%d)", c.n)
}

func set(id, after int) call { return call{"Set", id, after} }

func clearing(id int) call { return call{"Clear", id, 0} }

func advance(n int) call { return call{"Advance", 0, n} }

// of makes the call of a clock.
func (c call) of(k *Clock) ([]int, api.Errno) {
	switch c.name {
	case "Set":
		return nil, k.Set(c.id, c.n)
	case "Clear":
		return nil, k.Clear(c.id)
	}
	return k.Advance(c.n)
}

// ofModel makes the call of a model.
func (c call) ofModel(m *model) ([]int, api.Errno) {
	switch c.name {
	case "Set":
		return nil, m.set(c.id, c.n)
	case "Clear":
		return nil, m.clear(c.id)
	}
	return m.advance(c.n)
}

// make makes the call of both, holds what they answer, and what they tell behind it, against each other, and tells what the clock answered.
func (c call) make(t *testing.T, k *Clock, m *model) ([]int, api.Errno) {
	t.Helper()
	behind := fmt.Sprintf("time %d, timers %v", m.now, m.timers)
	got, e := c.of(k)
	want, wantE := c.ofModel(m)
	if !slices.Equal(got, want) || e != wantE || e != api.OK && got != nil {
		t.Errorf("%s: %v = %v, %v, wanted %v, %v", behind, c, got, e, want, wantE)
	}
	same(t, behind+", "+c.String(), k, m, c.id)
	return got, e
}

// same holds what a clock tells of itself against a model.
func same(t *testing.T, what string, k *Clock, m *model, ids ...int) {
	t.Helper()
	if k.Now() != m.now {
		t.Errorf("%s: the time is %d, wanted %d", what, k.Now(), m.now)
	}
	if got, want := timersOf(k), m.list(); !slices.Equal(got, want) {
		t.Errorf("%s: timers %v, wanted %v", what, got, want)
	}
	for _, d := range m.timers {
		ids = append(ids, d.id)
	}
	for _, id := range ids {
		n, there := k.Left(id)
		if want, wantThere := m.left(id); n != want || there != wantThere {
			t.Errorf("%s: Left(%d) = %d, %v, wanted %d, %v", what, id, n, there, want, wantThere)
		}
	}
}

// both makes a new clock, and the model of it.
func both(t *testing.T) (*Clock, *model) {
	t.Helper()
	k, m := New(), &model{}
	same(t, "New()", k, m, 0, 1, -1)
	return k, m
}

// check makes the calls of a new clock.
func check(t *testing.T, calls ...call) (*Clock, *model) {
	t.Helper()
	k, m := both(t)
	for _, c := range calls {
		c.make(t, k, m)
	}
	return k, m
}

// step is one call, with what it answers, and the time and the timers behind it.
type step struct {
	call
	fired  []int
	e      api.Errno
	now    int64
	timers []due
}

// ids are numbers in no order, the least and the greatest among them.
func ids() []int {
	return []int{7, 3, math.MaxInt, -1, 0, math.MinInt, 1, 1 << 32, -7, math.MaxInt - 1, 2, -1 << 32, math.MinInt + 1}
}

// rising tells the numbers of ids, as they stand in order.
func rising() []int {
	return []int{math.MinInt, math.MinInt + 1, -1 << 32, -7, -1, 0, 1, 2, 3, 7, 1 << 32, math.MaxInt - 1, math.MaxInt}
}

// wrongTimes are numbers that are neither a time that a timer is set to nor one that the clock goes on by, but for 0.
func wrongTimes() []int {
	return []int{-1, -2, -most, -most - 1, most + 1, most + 2, 2 * most, 1 << 32, 1<<32 + 1, 1<<32 + most, math.MaxInt, math.MaxInt - 1, math.MinInt, math.MinInt + 1}
}

// P15.1 and P15.2: stories written out.
func TestStories(t *testing.T) {
	for _, steps := range [][]step{
		// the chapter's example
		{
			{set(7, 5), nil, api.OK, 0, []due{{7, 5}}},
			{set(3, 5), nil, api.OK, 0, []due{{3, 5}, {7, 5}}},
			{advance(5), []int{3, 7}, api.OK, 5, nil},
			{advance(5), nil, api.OK, 10, nil},
			{clearing(3), nil, api.ErrNone, 10, nil},
		},
		// a step earlier, just then, a step later
		{
			{advance(10), nil, api.OK, 10, nil},
			{set(1, 4), nil, api.OK, 10, []due{{1, 14}}},
			{advance(3), nil, api.OK, 13, []due{{1, 14}}},
			{advance(0), nil, api.OK, 13, []due{{1, 14}}},
			{advance(1), []int{1}, api.OK, 14, nil},
			{set(1, 4), nil, api.OK, 14, []due{{1, 18}}},
			{advance(4), []int{1}, api.OK, 18, nil},
			{set(1, 4), nil, api.OK, 18, []due{{1, 22}}},
			{advance(5), []int{1}, api.OK, 23, nil},
			{advance(0), nil, api.OK, 23, nil},
		},
		// set anew, to a later time, to an earlier one, to the same one: fired once
		{
			{set(1, 4), nil, api.OK, 0, []due{{1, 4}}},
			{set(2, 5), nil, api.OK, 0, []due{{1, 4}, {2, 5}}},
			{set(1, 6), nil, api.OK, 0, []due{{2, 5}, {1, 6}}},
			{advance(4), nil, api.OK, 4, []due{{2, 5}, {1, 6}}},
			{set(1, 1), nil, api.OK, 4, []due{{1, 5}, {2, 5}}},
			{set(1, 1), nil, api.OK, 4, []due{{1, 5}, {2, 5}}},
			{advance(1), []int{1, 2}, api.OK, 5, nil},
			{advance(1), nil, api.OK, 6, nil},
			{set(1, 9), nil, api.OK, 6, []due{{1, 15}}},
			{set(1, 2), nil, api.OK, 6, []due{{1, 8}}},
			{advance(most), []int{1}, api.OK, most + 6, nil},
			{advance(most), nil, api.OK, 2*most + 6, nil},
		},
		// cleared: one that isn't there, one that is, twice, one that has fired, and set again
		{
			{clearing(1), nil, api.ErrNone, 0, nil},
			{set(1, 2), nil, api.OK, 0, []due{{1, 2}}},
			{clearing(2), nil, api.ErrNone, 0, []due{{1, 2}}},
			{clearing(-1), nil, api.ErrNone, 0, []due{{1, 2}}},
			{clearing(1), nil, api.OK, 0, nil},
			{clearing(1), nil, api.ErrNone, 0, nil},
			{advance(2), nil, api.OK, 2, nil},
			{set(1, 2), nil, api.OK, 2, []due{{1, 4}}},
			{advance(2), []int{1}, api.OK, 4, nil},
			{clearing(1), nil, api.ErrNone, 4, nil},
			{set(1, 1), nil, api.OK, 4, []due{{1, 5}}},
			{clearing(1), nil, api.OK, 4, nil},
		},
		// over several times at once: by the times ahead of the numbers
		{
			{set(1, 9), nil, api.OK, 0, []due{{1, 9}}},
			{set(2, 7), nil, api.OK, 0, []due{{2, 7}, {1, 9}}},
			{set(3, 7), nil, api.OK, 0, []due{{2, 7}, {3, 7}, {1, 9}}},
			{set(-4, 8), nil, api.OK, 0, []due{{2, 7}, {3, 7}, {-4, 8}, {1, 9}}},
			{set(5, 1), nil, api.OK, 0, []due{{5, 1}, {2, 7}, {3, 7}, {-4, 8}, {1, 9}}},
			{set(6, 10), nil, api.OK, 0, []due{{5, 1}, {2, 7}, {3, 7}, {-4, 8}, {1, 9}, {6, 10}}},
			{advance(9), []int{5, 2, 3, -4, 1}, api.OK, 9, []due{{6, 10}}},
		},
		// wrong ones leave all as it was
		{
			{set(1, 0), nil, api.ErrArg, 0, nil},
			{set(1, most), nil, api.OK, 0, []due{{1, most}}},
			{set(1, 0), nil, api.ErrArg, 0, []due{{1, most}}},
			{set(2, most+1), nil, api.ErrArg, 0, []due{{1, most}}},
			{advance(-1), nil, api.ErrArg, 0, []due{{1, most}}},
			{advance(most + 1), nil, api.ErrArg, 0, []due{{1, most}}},
			{advance(most - 1), nil, api.OK, most - 1, []due{{1, most}}},
			{advance(most), []int{1}, api.OK, 2*most - 1, nil},
		},
	} {
		k, m := both(t)
		for i, s := range steps {
			fired, e := s.make(t, k, m)
			if timers := timersOf(k); !slices.Equal(fired, s.fired) || e != s.e || k.Now() != s.now || !slices.Equal(timers, s.timers) {
				t.Errorf("step %d, %v = %v, %v, at %d, with %v, wanted %v, %v, %d, %v", i, s.call, fired, e, k.Now(), timers, s.fired, s.e, s.now, s.timers)
			}
		}
	}
}

// P15.1: Set's edges, of a timer that isn't there and of one that is.
func TestSet(t *testing.T) {
	right := []int{1, 2, 3, 255, 256, 1 << 16, most - 1, most}
	for _, ahead := range [][]call{nil, {advance(3)}, {set(1, 7), advance(3)}, {set(1, 3), advance(3)}, {set(2, 5), set(1, 5), set(0, 5)}, {advance(most), advance(most), advance(most)}} {
		for _, after := range append(right, append(wrongTimes(), 0)...) {
			k, m := check(t, ahead...)
			want := m.list()
			e := k.Set(1, after)
			if e != api.OK {
				if slices.Contains(right, after) || e != api.ErrArg || !slices.Equal(timersOf(k), want) || k.Now() != m.now {
					t.Errorf("%v, Set(1, %d) = %v, with %v", ahead, after, e, timersOf(k))
				}
				continue
			}
			n, there := k.Left(1)
			if !slices.Contains(right, after) || n != after || !there || !slices.Contains(timersOf(k), due{1, m.now + int64(after)}) {
				t.Errorf("%v, Set(1, %d) = %v: Left(1) = %d, %v", ahead, after, e, n, there)
			}
			m.set(1, after)
			same(t, fmt.Sprint(ahead, after), k, m)
			for _, c := range []call{advance(after - 1), advance(1), advance(1)} {
				c.make(t, k, m)
			}
		}
	}
}

// P15.1: timers of any number are apart from each other.
func TestNumbers(t *testing.T) {
	k, m := both(t)
	for i, id := range ids() {
		set(id, 1+i%3).make(t, k, m)
	}
	for i, id := range ids() {
		clearing(id).make(t, k, m)
		if _, there := k.Left(id); there || k.Clear(id) != api.ErrNone {
			t.Errorf("%d, cleared: still there", id)
		}
		if i%2 == 0 {
			set(id, most-i).make(t, k, m)
		}
	}
	for range 4 {
		advance(1).make(t, k, m)
	}
}

// P15.1: Left of a timer that is there, falling as time goes on, and of none.
func TestLeft(t *testing.T) {
	for _, id := range ids() {
		k, m := both(t)
		for _, other := range ids() {
			if other != id {
				set(other, 3).make(t, k, m)
			}
		}
		if n, there := k.Left(id); n != 0 || there {
			t.Errorf("Left(%d), not there: %d, %v", id, n, there)
		}
		set(id, 5).make(t, k, m)
		for left := 5; left > 0; left-- {
			if n, there := k.Left(id); n != left || !there {
				t.Errorf("Left(%d) = %d, %v, wanted %d", id, n, there, left)
			}
			advance(1).make(t, k, m)
		}
		if n, there := k.Left(id); n != 0 || there {
			t.Errorf("Left(%d), fired: %d, %v", id, n, there)
		}
		set(id, most).make(t, k, m)
		clearing(id).make(t, k, m)
		if n, there := k.Left(id); n != 0 || there {
			t.Errorf("Left(%d), cleared: %d, %v", id, n, there)
		}
	}
}

// P15.2: Advance's edges.
func TestAdvance(t *testing.T) {
	for _, ahead := range [][]call{nil, {advance(3)}, {set(1, most)}, {set(1, most), set(2, most-1), advance(1)}, {set(1, 1), set(2, 2), set(3, 3), advance(2)}, {advance(most), set(1, 5), advance(most)}} {
		for _, n := range wrongTimes() {
			k, m := check(t, ahead...)
			if fired, e := k.Advance(n); fired != nil || e != api.ErrArg {
				t.Errorf("%v, Advance(%d) = %v, %v, wanted ErrArg", ahead, n, fired, e)
			}
			same(t, fmt.Sprint(ahead, n), k, m, 1, 2, 3)
		}
		for _, n := range []int{0, 1, 2, 255, 256, 1 << 16, most - 1, most} {
			k, m := check(t, ahead...)
			was := k.Now()
			advance(n).make(t, k, m)
			if k.Now()-was != int64(n) {
				t.Errorf("%v, Advance(%d): from %d to %d", ahead, n, was, k.Now())
			}
		}
	}
}

// P15.2: many advances of 2^30, behind which times are far greater than numbers of 32 bits.
func TestLongTime(t *testing.T) {
	k, m := both(t)
	for i := range 100 {
		set(i, most).make(t, k, m)
		set(-i, most-1).make(t, k, m)
		advance(most-1).make(t, k, m)
		advance(1).make(t, k, m)
		if k.Now() != int64(i+1)*most {
			t.Fatalf("the time is %d, wanted %d", k.Now(), int64(i+1)*most)
		}
	}
	for i := range 100000 {
		if fired, e := k.Advance(most); fired != nil || e != api.OK || k.Now() != int64(i+101)*most {
			t.Fatalf("Advance(2^30) = %v, %v, at %d", fired, e, k.Now())
		}
	}
	m.now = k.Now()
	set(1, most).make(t, k, m)
	set(2, 1).make(t, k, m)
	advance(most).make(t, k, m)
}

// P15.2: an advance in two parts fires what it does at once, and leaves the same.
func TestInTwoParts(t *testing.T) {
	calls := []call{set(4, 1), set(2, 3), set(9, 3), set(-1, 3), set(5, 6), set(0, 7), set(3, 2), set(8, 11)}
	for n := range 13 {
		whole, m := check(t, calls...)
		all, _ := whole.Advance(n)
		m.advance(n)
		for first := range n + 1 {
			k, _ := check(t, calls...)
			a, e := k.Advance(first)
			b, e2 := k.Advance(n - first)
			if got := slices.Concat(a, b); !slices.Equal(got, all) || e != api.OK || e2 != api.OK {
				t.Errorf("%d and %d: %v, wanted %v", first, n-first, got, all)
			}
			same(t, fmt.Sprint(first, n-first), k, m, 0, 2, 3, 4, 5, 8, 9, -1)
		}
	}
}

// P15.2: timers of one time are told by their numbers, whatever the order in which they were set; of several times, by these ahead.
func TestOrder(t *testing.T) {
	random := rand.New(rand.NewSource(15))
	for range 200 {
		shuffled := ids()
		random.Shuffle(len(shuffled), func(i, j int) { shuffled[i], shuffled[j] = shuffled[j], shuffled[i] })
		k := New()
		for _, id := range shuffled {
			k.Set(id, 9)
		}
		var told []int
		for id, at := range k.Timers() {
			told = append(told, id)
			if at != 9 {
				t.Errorf("%d is due at %d", id, at)
			}
		}
		fired, e := k.Advance(9)
		if !slices.Equal(told, rising()) || !slices.Equal(fired, rising()) || e != api.OK {
			t.Fatalf("set in the order %v: told %v, fired %v, %v", shuffled, told, fired, e)
		}
	}
	for range 200 {
		k, m := both(t)
		for _, id := range random.Perm(len(ids())) {
			k.Set(ids()[id], 1+id%4)
			m.set(ids()[id], 1+id%4)
		}
		same(t, "several times", k, m)
		advance(random.Intn(5)).make(t, k, m)
	}
}

// P15.2: more timers than a few.
func TestManyTimers(t *testing.T) {
	k, m := both(t)
	random := rand.New(rand.NewSource(1500))
	for range 700 {
		id, after := random.Intn(500)-250, 1+random.Intn(60)
		k.Set(id, after)
		m.set(id, after)
	}
	same(t, "many timers", k, m)
	for range 65 {
		advance(1).make(t, k, m)
	}
	if len(m.timers) != 0 {
		t.Errorf("%v are left", m.timers)
	}
}

// P15.2: Timers of none, stopped behind each of them, gone through twice.
func TestTimersStops(t *testing.T) {
	for id, at := range New().Timers() {
		t.Errorf("no timers: %d, %d", id, at)
	}
	k, m := check(t, set(5, 2), set(4, 2), set(-9, 7), set(0, 1), set(8, 2))
	timers := k.Timers()
	for range 2 {
		for n := 1; n <= len(m.timers)+1; n++ {
			var got []due
			for id, at := range timers {
				got = append(got, due{id, at})
				if len(got) == n {
					break
				}
			}
			if want := m.list()[:min(n, len(m.timers))]; !slices.Equal(got, want) {
				t.Errorf("stopped behind %d: %v, wanted %v", n, got, want)
			}
		}
	}
	asked := 0
	k.Timers()(func(int, int64) bool {
		asked++
		return asked < 3
	})
	if asked != 3 {
		t.Errorf("asked %d times, though stopped at the third", asked)
	}
}

// P15.2 and R6: an iterator tells what there is when it is gone through, not when it was got.
func TestTimersAreThoseOfNow(t *testing.T) {
	k, m := both(t)
	timers := k.Timers()
	now := func() (l []due) {
		for id, at := range timers {
			l = append(l, due{id, at})
		}
		return l
	}
	for _, c := range []call{set(3, 4), set(1, 4), set(2, 1), set(3, 2), advance(1), clearing(1), advance(2), set(9, most), advance(0)} {
		c.make(t, k, m)
		if got, want := now(), m.list(); !slices.Equal(got, want) {
			t.Errorf("behind %v: %v, wanted %v", c, got, want)
		}
	}
}

// P15.2 and R6: a loop that changes the timers on its way tells those that there were at its beginning.
func TestTimersChangedOnTheWay(t *testing.T) {
	for _, changes := range [][]call{
		{clearing(1), clearing(2), clearing(3)},
		{set(3, 9), set(0, 1), set(4, 8)},
		{advance(2), advance(2)},
		{advance(most), set(1, 1), set(2, 1)},
	} {
		k, m := check(t, set(1, 2), set(2, 3), set(3, 4))
		timers, want := k.Timers(), m.list()
		for range 2 {
			var got []due
			for id, at := range timers {
				got = append(got, due{id, at})
				for _, c := range changes {
					c.make(t, k, m)
				}
			}
			if !slices.Equal(got, want) {
				t.Errorf("%v on the way: %v, wanted %v", changes, got, want)
			}
			want = m.list()
		}
	}
}

// P15.1 and P15.2: every story of up to four calls of a menu.
func TestEveryStory(t *testing.T) {
	menu := []call{set(0, 1), set(0, 2), set(0, 3), set(1, 2), set(-1, 2), set(1, 0), clearing(0), clearing(1), advance(0), advance(1), advance(2), advance(-1)}
	var tell func(calls []call)
	tell = func(calls []call) {
		if len(calls) > 0 {
			k, m := New(), &model{}
			for _, c := range calls[:len(calls)-1] {
				c.of(k)
				c.ofModel(m)
			}
			calls[len(calls)-1].make(t, k, m)
		}
		if len(calls) == 4 {
			return
		}
		for _, c := range menu {
			tell(append(calls[:len(calls):len(calls)], c))
		}
	}
	tell(nil)
}

// anyCall tells a call, wrong ones among them.
func anyCall(random *rand.Rand) call {
	few := []int{-2, -1, 0, 1, 2, 3, 4, 5, math.MinInt, math.MaxInt}
	id := few[random.Intn(len(few))]
	switch random.Intn(12) {
	case 0:
		return set(id, wrongTimes()[random.Intn(len(wrongTimes()))])
	case 1:
		return advance(wrongTimes()[random.Intn(len(wrongTimes()))])
	case 2:
		return set(id, random.Intn(most+1))
	case 3:
		return advance(random.Intn(most + 1))
	case 4, 5:
		return clearing(id)
	case 6, 7, 8:
		return advance(random.Intn(5))
	}
	return set(id, random.Intn(8))
}

// P15.1 and P15.2: long stories of any calls.
func TestAnyStories(t *testing.T) {
	random := rand.New(rand.NewSource(151))
	for range 2000 {
		calls := make([]call, random.Intn(60))
		for i := range calls {
			calls[i] = anyCall(random)
		}
		if check(t, calls...); t.Failed() {
			return
		}
	}
}

func overwrite(l []int) {
	l = l[:cap(l)]
	for i := range l {
		l[i] = 99
	}
}

// P15.2 with R4: what is written over what was answered, its spare room too, makes no difference.
func TestNothingIsShared(t *testing.T) {
	k, m := check(t, set(1, 1), set(2, 1), set(3, 2), set(4, 2), set(5, 2), set(6, 3))
	var answers, wants [][]int
	for range 5 {
		got, _ := k.Advance(1)
		want, _ := m.advance(1)
		answers, wants = append(answers, got), append(wants, want)
		for i := range answers {
			if !slices.Equal(answers[i], wants[i]) {
				t.Errorf("answer %d: %v, wanted %v", i, answers[i], wants[i])
			}
		}
		same(t, "an answer", k, m)
		overwrite(got)
		for i := range want {
			want[i] = 99
		}
		same(t, "an answer overwritten", k, m, 99)
		if k.Set(1, 2) != m.set(1, 2) {
			t.Error("Set(1, 2)")
		}
	}
}

// P15.1 and P15.2 with R5: asking changes nothing, and what other clocks are told makes no difference.
func TestClocksAreApart(t *testing.T) {
	calls := []call{set(1, 3), set(2, 3), advance(1), set(0, 1), set(1, 0), advance(1), clearing(2), advance(-1), advance(1), advance(most)}
	var clocks [6]*Clock
	var models [6]*model
	for i := range clocks {
		clocks[i], models[i] = both(t)
	}
	for at := range len(calls) + len(clocks) {
		for i := range clocks {
			if n := at - i; n >= 0 && n < len(calls) {
				calls[n].make(t, clocks[i], models[i])
			}
			for range 2 {
				same(t, fmt.Sprintf("step %d, clock %d", at, i), clocks[i], models[i], 0, 1, 2)
			}
		}
	}
}

// R5: the same calls answer the same, however often.
func TestSameAgain(t *testing.T) {
	random := rand.New(rand.NewSource(1515))
	calls := make([]call, 200)
	for i := range calls {
		calls[i] = anyCall(random)
	}
	tell := func() (said []string) {
		k := New()
		for _, c := range calls {
			fired, e := c.of(k)
			said = append(said, fmt.Sprint(fired, e, k.Now(), timersOf(k)))
		}
		return said
	}
	first := tell()
	for range 20 {
		if again := tell(); !slices.Equal(again, first) {
			t.Fatal("the same calls answered otherwise")
		}
	}
}

// R1: several goroutines at once, with a clock each.
func TestSeveralGoroutines(t *testing.T) {
	var wait sync.WaitGroup
	for i := range 8 {
		wait.Go(func() {
			random := rand.New(rand.NewSource(int64(i)))
			k, m := both(t)
			for range 500 {
				anyCall(random).make(t, k, m)
			}
		})
	}
	wait.Wait()
}
