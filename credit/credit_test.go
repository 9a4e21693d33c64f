package credit

import (
	"math"
	"math/rand"
	"testing"

	"catchpit/api"
)

// now is all that a credit tells of itself.
type now struct {
	open, taken, held int
	grants            int64
}

func look(c *Credit) now { return now{c.Open(), c.Taken(), c.Held(), c.Grants()} }

// fresh tells a credit of n.
func fresh(t *testing.T, n int) *Credit {
	t.Helper()
	c, e := New(n)
	if e != api.OK || c == nil {
		t.Fatalf("New(%d): %v, %v", n, c, e)
	}
	return c
}

// creditAt tells a credit of which so many units are open, taken and held, and of which Give has granted nothing yet.
func creditAt(t *testing.T, open, taken, held int) *Credit {
	t.Helper()
	c := fresh(t, open+taken+held)
	if c.Take(held) != held || c.Use(held) != api.OK || c.Take(taken) != taken {
		t.Fatalf("no credit with %d, %d, %d", open, taken, held)
	}
	if got, want := look(c), (now{open, taken, held, 0}); got != want {
		t.Fatalf("a credit with %v, wanted %v", got, want)
	}
	return c
}

// P4.1: just the sizes from 1 to 65536 make a credit, and all its units are open at first.
func TestNew(t *testing.T) {
	for _, n := range []int{1, 2, 5, 255, 4096, 65535, 65536} {
		c, e := New(n)
		if e != api.OK || c == nil {
			t.Errorf("New(%d): %v, %v", n, c, e)
			continue
		}
		if got, want := look(c), (now{n, 0, 0, 0}); got != want {
			t.Errorf("New(%d): %v, wanted %v", n, got, want)
		}
	}
	for _, n := range []int{0, -1, -5, -65536, 65537, 65538, 1 << 20, 1<<32 + 1, math.MaxInt, math.MinInt} {
		if c, e := New(n); c != nil || e != api.ErrArg {
			t.Errorf("New(%d): %v, %v, wanted nil and ErrArg", n, c, e)
		}
	}
}

// P4.1: what one credit goes through is nothing to another.
func TestCreditsAreApart(t *testing.T) {
	a, b := fresh(t, 4), fresh(t, 4)
	a.Take(3)
	a.Use(2)
	a.Give(1)
	if got, want := look(b), (now{4, 0, 0, 0}); got != want {
		t.Errorf("the other one: %v, wanted %v", got, want)
	}
	if got, want := look(a), (now{2, 1, 1, 1}); got != want {
		t.Errorf("the first one: %v, wanted %v", got, want)
	}
}

// P4.2: Take takes what is asked for, as far as it is open.
func TestTake(t *testing.T) {
	for _, x := range []struct {
		open, taken, held int
		n, want           int
		then              now
	}{
		{5, 0, 0, 3, 3, now{2, 3, 0, 0}},
		{5, 0, 0, 1, 1, now{4, 1, 0, 0}},
		{5, 0, 0, 4, 4, now{1, 4, 0, 0}},
		{5, 0, 0, 5, 5, now{0, 5, 0, 0}},
		{5, 0, 0, 6, 5, now{0, 5, 0, 0}},
		{5, 0, 0, 65537, 5, now{0, 5, 0, 0}},
		{5, 0, 0, math.MaxInt, 5, now{0, 5, 0, 0}},
		{5, 0, 0, 0, 0, now{5, 0, 0, 0}},
		{5, 0, 0, -1, 0, now{5, 0, 0, 0}},
		{5, 0, 0, math.MinInt, 0, now{5, 0, 0, 0}},
		{2, 3, 4, 1, 1, now{1, 4, 4, 0}},
		{2, 3, 4, 2, 2, now{0, 5, 4, 0}},
		{2, 3, 4, 3, 2, now{0, 5, 4, 0}},
		{2, 3, 4, 9, 2, now{0, 5, 4, 0}},
		{2, 3, 4, 0, 0, now{2, 3, 4, 0}},
		{2, 3, 4, -2, 0, now{2, 3, 4, 0}},
		{0, 3, 4, 1, 0, now{0, 3, 4, 0}},
		{0, 3, 4, 0, 0, now{0, 3, 4, 0}},
		{0, 3, 4, -1, 0, now{0, 3, 4, 0}},
		{0, 7, 0, 7, 0, now{0, 7, 0, 0}},
		{0, 0, 7, 7, 0, now{0, 0, 7, 0}},
		{1, 0, 0, 1, 1, now{0, 1, 0, 0}},
		{1, 0, 0, 2, 1, now{0, 1, 0, 0}},
		{65536, 0, 0, 65536, 65536, now{0, 65536, 0, 0}},
		{65536, 0, 0, 65537, 65536, now{0, 65536, 0, 0}},
		{65536, 0, 0, 65535, 65535, now{1, 65535, 0, 0}},
	} {
		c := creditAt(t, x.open, x.taken, x.held)
		if got := c.Take(x.n); got != x.want {
			t.Errorf("%d, %d, %d: Take(%d): %d, wanted %d", x.open, x.taken, x.held, x.n, got, x.want)
		}
		if got := look(c); got != x.then {
			t.Errorf("%d, %d, %d: behind Take(%d): %v, wanted %v", x.open, x.taken, x.held, x.n, got, x.then)
		}
	}
}

// row is one call of Use, Return or Give, what it answers, and what there is then.
type row struct {
	open, taken, held int
	n                 int
	want              api.Errno
	then              now
}

// checkRows makes the calls; call is the method that is asked for.
func checkRows(t *testing.T, name string, call func(*Credit, int) api.Errno, rows []row) {
	t.Helper()
	for _, x := range rows {
		c := creditAt(t, x.open, x.taken, x.held)
		if got := call(c, x.n); got != x.want {
			t.Errorf("%d, %d, %d: %s(%d): %v, wanted %v", x.open, x.taken, x.held, name, x.n, got, x.want)
		}
		if got := look(c); got != x.then {
			t.Errorf("%d, %d, %d: behind %s(%d): %v, wanted %v", x.open, x.taken, x.held, name, x.n, got, x.then)
		}
	}
}

// P4.2: Use makes taken units held, and what it refuses leaves all as it was.
func TestUse(t *testing.T) {
	checkRows(t, "Use", (*Credit).Use, []row{
		{2, 3, 4, 0, api.OK, now{2, 3, 4, 0}},
		{2, 3, 4, 1, api.OK, now{2, 2, 5, 0}},
		{2, 3, 4, 2, api.OK, now{2, 1, 6, 0}},
		{2, 3, 4, 3, api.OK, now{2, 0, 7, 0}},
		{2, 3, 4, 4, api.ErrNone, now{2, 3, 4, 0}},
		{2, 3, 4, 9, api.ErrNone, now{2, 3, 4, 0}},
		{2, 3, 4, math.MaxInt, api.ErrNone, now{2, 3, 4, 0}},
		{2, 3, 4, -1, api.ErrArg, now{2, 3, 4, 0}},
		{2, 3, 4, -4, api.ErrArg, now{2, 3, 4, 0}},
		{2, 3, 4, math.MinInt, api.ErrArg, now{2, 3, 4, 0}},
		{5, 0, 4, 0, api.OK, now{5, 0, 4, 0}},
		{5, 0, 4, 1, api.ErrNone, now{5, 0, 4, 0}},
		{5, 0, 4, -1, api.ErrArg, now{5, 0, 4, 0}},
		{0, 1, 0, 1, api.OK, now{0, 0, 1, 0}},
		{0, 1, 0, 2, api.ErrNone, now{0, 1, 0, 0}},
		{0, 65536, 0, 65536, api.OK, now{0, 0, 65536, 0}},
		{0, 65536, 0, 65537, api.ErrNone, now{0, 65536, 0, 0}},
	})
}

// P4.2: Return makes taken units open, and grants nothing by it.
func TestReturn(t *testing.T) {
	checkRows(t, "Return", (*Credit).Return, []row{
		{2, 3, 4, 0, api.OK, now{2, 3, 4, 0}},
		{2, 3, 4, 1, api.OK, now{3, 2, 4, 0}},
		{2, 3, 4, 2, api.OK, now{4, 1, 4, 0}},
		{2, 3, 4, 3, api.OK, now{5, 0, 4, 0}},
		{2, 3, 4, 4, api.ErrNone, now{2, 3, 4, 0}},
		{2, 3, 4, 9, api.ErrNone, now{2, 3, 4, 0}},
		{2, 3, 4, math.MaxInt, api.ErrNone, now{2, 3, 4, 0}},
		{2, 3, 4, -1, api.ErrArg, now{2, 3, 4, 0}},
		{2, 3, 4, -2, api.ErrArg, now{2, 3, 4, 0}},
		{2, 3, 4, math.MinInt, api.ErrArg, now{2, 3, 4, 0}},
		{5, 0, 4, 0, api.OK, now{5, 0, 4, 0}},
		{5, 0, 4, 1, api.ErrNone, now{5, 0, 4, 0}},
		{5, 0, 4, -1, api.ErrArg, now{5, 0, 4, 0}},
		{0, 1, 0, 1, api.OK, now{1, 0, 0, 0}},
		{0, 1, 0, 2, api.ErrNone, now{0, 1, 0, 0}},
		{0, 65536, 0, 65536, api.OK, now{65536, 0, 0, 0}},
		{0, 65536, 0, 65537, api.ErrNone, now{0, 65536, 0, 0}},
	})
}

// P4.2: Give makes held units open, and counts them; what it refuses isn't counted.
func TestGive(t *testing.T) {
	checkRows(t, "Give", (*Credit).Give, []row{
		{2, 3, 4, 0, api.OK, now{2, 3, 4, 0}},
		{2, 3, 4, 1, api.OK, now{3, 3, 3, 1}},
		{2, 3, 4, 3, api.OK, now{5, 3, 1, 3}},
		{2, 3, 4, 4, api.OK, now{6, 3, 0, 4}},
		{2, 3, 4, 5, api.ErrNone, now{2, 3, 4, 0}},
		{2, 3, 4, 9, api.ErrNone, now{2, 3, 4, 0}},
		{2, 3, 4, math.MaxInt, api.ErrNone, now{2, 3, 4, 0}},
		{2, 3, 4, -1, api.ErrArg, now{2, 3, 4, 0}},
		{2, 3, 4, -2, api.ErrArg, now{2, 3, 4, 0}},
		{2, 3, 4, math.MinInt, api.ErrArg, now{2, 3, 4, 0}},
		{5, 4, 0, 0, api.OK, now{5, 4, 0, 0}},
		{5, 4, 0, 1, api.ErrNone, now{5, 4, 0, 0}},
		{5, 4, 0, -1, api.ErrArg, now{5, 4, 0, 0}},
		{0, 0, 1, 1, api.OK, now{1, 0, 0, 1}},
		{0, 0, 1, 2, api.ErrNone, now{0, 0, 1, 0}},
		{0, 0, 65536, 65536, api.OK, now{65536, 0, 0, 65536}},
		{0, 0, 65536, 65537, api.ErrNone, now{0, 0, 65536, 0}},
	})
}

// P4.2: the chapter's example, step by step.
func TestExample(t *testing.T) {
	c := fresh(t, 5)
	if n := c.Take(3); n != 3 {
		t.Errorf("Take(3): %d", n)
	}
	if n := c.Take(3); n != 2 {
		t.Errorf("Take(3), again: %d", n)
	}
	if e := c.Use(4); e != api.OK {
		t.Errorf("Use(4): %v", e)
	}
	if e := c.Give(5); e != api.ErrNone {
		t.Errorf("Give(5): %v", e)
	}
	if e := c.Give(4); e != api.OK {
		t.Errorf("Give(4): %v", e)
	}
	if e := c.Return(1); e != api.OK {
		t.Errorf("Return(1): %v", e)
	}
	if got, want := look(c), (now{5, 0, 0, 4}); got != want {
		t.Errorf("at the end: %v, wanted %v", got, want)
	}
}

// P4.2: Grants goes on behind every gift, and behind nothing else.
func TestGrants(t *testing.T) {
	c := fresh(t, 10)
	for i, step := range []struct {
		call func(int) api.Errno
		n    int
		e    api.Errno
		want int64
	}{
		{func(n int) api.Errno { c.Take(n); return api.OK }, 9, api.OK, 0},
		{c.Use, 7, api.OK, 0},
		{c.Return, 1, api.OK, 0},
		{c.Give, 3, api.OK, 3},
		{c.Give, 5, api.ErrNone, 3},
		{c.Give, -3, api.ErrArg, 3},
		{c.Give, 0, api.OK, 3},
		{c.Return, 1, api.OK, 3},
		{c.Return, 1, api.ErrNone, 3},
		{c.Give, 4, api.OK, 7},
		{func(n int) api.Errno { c.Take(n); return api.OK }, 10, api.OK, 7},
		{c.Use, 10, api.OK, 7},
		{c.Give, 10, api.OK, 17},
	} {
		if e := step.call(step.n); e != step.e {
			t.Errorf("step %d: %v, wanted %v", i, e, step.e)
		}
		if got := c.Grants(); got != step.want {
			t.Errorf("behind step %d: Grants() %d, wanted %d", i, got, step.want)
		}
	}
}

// P4.2: gifts are counted beyond what fits into 32 bits.
func TestManyGrants(t *testing.T) {
	c := fresh(t, api.MaxRing)
	const rounds = 1<<17 + 3
	for range rounds {
		c.Take(api.MaxRing)
		c.Use(api.MaxRing)
		c.Give(api.MaxRing)
	}
	if got, want := look(c), (now{65536, 0, 0, 8590131200}); got != want {
		t.Errorf("behind %d rounds: %v, wanted %v", rounds, got, want)
	}
}

// model is a credit told in the plainest way: unit by unit, each with a letter: o open, t taken, h held.
type model struct {
	units  []byte
	grants int64
}

func newModel(n int) *model {
	m := &model{}
	for range n {
		m.units = append(m.units, 'o')
	}
	return m
}

func (m *model) count(kind byte) int {
	n := 0
	for _, u := range m.units {
		if u == kind {
			n++
		}
	}
	return n
}

// turn makes up to n units of one kind to be of another, and tells how many.
func (m *model) turn(n int, from, to byte) int {
	done := 0
	for i, u := range m.units {
		if u == from && done < n {
			m.units[i] = to
			done++
		}
	}
	return done
}

func (m *model) turnAll(n int, from, to byte) api.Errno {
	switch {
	case n < 0:
		return api.ErrArg
	case m.count(from) < n:
		return api.ErrNone
	}
	m.turn(n, from, to)
	return api.OK
}

func (m *model) look() now { return now{m.count('o'), m.count('t'), m.count('h'), m.grants} }

// step makes one call (0 Take, 1 Use, 2 Return, 3 Give) of both, and tells whether they answer the same and then are the same.
func step(c *Credit, m *model, call, n int) bool {
	same := true
	switch call {
	case 0:
		same = c.Take(n) == m.turn(n, 'o', 't')
	case 1:
		same = c.Use(n) == m.turnAll(n, 't', 'h')
	case 2:
		same = c.Return(n) == m.turnAll(n, 't', 'o')
	case 3:
		want := m.turnAll(n, 'h', 'o')
		if want == api.OK {
			m.grants += int64(n)
		}
		same = c.Give(n) == want
	}
	return same && look(c) == m.look()
}

// P4.1, P4.2: every story of four calls of a small credit goes as the model says.
func TestShortStories(t *testing.T) {
	for size := 1; size <= 3; size++ {
		choices := 4 * (size + 3) // each call with each number from -1 to size + 1
		for story := range choices * choices * choices * choices {
			c, m := fresh(t, size), newModel(size)
			for i, rest := 0, story; i < 4; i, rest = i+1, rest/choices {
				call, n := rest%choices%4, rest%choices/4-1
				if !step(c, m, call, n) {
					t.Fatalf("size %d, story %d, step %d (call %d of %d): %v, wanted %v", size, story, i, call, n, look(c), m.look())
				}
			}
		}
	}
}

// P4.1, P4.2: long stories go as the model says, and the units are always as many.
func TestLongStories(t *testing.T) {
	r := rand.New(rand.NewSource(4))
	for _, size := range []int{1, 2, 7, 64, 300} {
		c, m := fresh(t, size), newModel(size)
		for i := range 3000 {
			call, n := r.Intn(4), r.Intn(size+3)-1
			if !step(c, m, call, n) {
				t.Fatalf("size %d, step %d (call %d of %d): %v, wanted %v", size, i, call, n, look(c), m.look())
			}
			if sum := c.Open() + c.Taken() + c.Held(); sum != size {
				t.Fatalf("size %d, step %d: %d units", size, i, sum)
			}
		}
	}
}

// P4.3: somebody who has in hand just what it took and used, and lets go of just what it gives back, never has more than n in hand, however greedy.
func TestNeverMoreInHand(t *testing.T) {
	r := rand.New(rand.NewSource(43))
	for _, size := range []int{1, 2, 5, 100, 65536} {
		c := fresh(t, size)
		hand, most := 0, 0
		for i := range 5000 {
			took := c.Take(r.Intn(2*size + 2))
			used := r.Intn(took + 1)
			if c.Use(used) != api.OK || c.Return(took-used) != api.OK {
				t.Fatalf("size %d, round %d: refused what was taken", size, i)
			}
			hand += used
			most = max(most, hand)
			if hand > size || c.Held() != hand || c.Open() != size-hand {
				t.Fatalf("size %d, round %d: %d in hand, %v", size, i, hand, look(c))
			}
			gone := r.Intn(hand + 1)
			if c.Give(gone) != api.OK {
				t.Fatalf("size %d, round %d: refused what was held", size, i)
			}
			hand -= gone
		}
		if most == 0 {
			t.Errorf("size %d: nothing was ever in hand", size)
		}
	}
}

// P4.3: neither does anybody who takes all that can be had and gives nothing back, whatever else is refused on the way.
func TestNothingGivenBack(t *testing.T) {
	c := fresh(t, 8)
	hand := 0
	for range 20 {
		took := c.Take(3)
		if c.Use(took+1) != api.ErrNone || c.Give(hand+1) != api.ErrNone || c.Use(took) != api.OK {
			t.Fatalf("%d taken: %v", took, look(c))
		}
		hand += took
	}
	if got, want := look(c), (now{0, 0, 8, 0}); hand != 8 || got != want {
		t.Errorf("%d in hand, %v, wanted 8 and %v", hand, got, want)
	}
}
