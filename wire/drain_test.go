package wire

import (
	"fmt"
	"math"
	"math/rand"
	"slices"
	"strings"
	"testing"

	"catchpit/api"
)

// drainModel is what the chapter's words say of a drain: all its numbers, how many of them were used, what it took, and what it is (open, closed or gone).
type drainModel struct {
	takes []int
	end   int
	used  int
	got   string
	is    string
}

// refused tells why it can't be written to.
func (m *drainModel) refused() api.Errno {
	return map[string]api.Errno{"open": api.OK, "closed": api.ErrShut, "gone": api.ErrReset}[m.is]
}

// room tells how many bytes it takes next, -1 if it is to be gone.
func (m *drainModel) room() int {
	if m.used < len(m.takes) {
		return m.takes[m.used]
	}
	return []int{0, math.MaxInt, -1}[m.end]
}

func (m *drainModel) write(b string) (int, api.Errno) {
	if m.is != "open" || b == "" {
		return 0, m.refused()
	}
	room := m.room()
	if room < 0 {
		m.is = "gone"
		return 0, api.ErrReset
	}
	m.used++
	n := 0
	for n < len(b) && n < room {
		m.got += b[n : n+1]
		n++
	}
	return n, api.OK
}

func (m *drainModel) close() api.Errno {
	e := m.refused()
	if m.is == "open" {
		m.is = "closed"
	}
	return e
}

// drainCall is one call of a drain: Close, or Write of a text.
type drainCall struct {
	closes bool
	b      string
}

func (c drainCall) String() string {
	if c.closes {
		return "Close()"
	}
	return fmt.Sprintf("Write(%q)", c.b)
}

func write(b string) drainCall { return drainCall{b: b} }

var closing = drainCall{closes: true}

// of makes the call of a drain.
func (c drainCall) of(d *Drain) (int, api.Errno) {
	if c.closes {
		return 0, d.Close()
	}
	return d.Write([]byte(c.b))
}

// ofModel makes the call of a model.
func (c drainCall) ofModel(m *drainModel) (int, api.Errno) {
	if c.closes {
		return 0, m.close()
	}
	return m.write(c.b)
}

// make makes the call of both, holds what they answer, and what they tell behind it, against each other, and tells what the drain answered.
func (c drainCall) make(t *testing.T, d *Drain, m *drainModel) (int, api.Errno) {
	t.Helper()
	behind := fmt.Sprintf("%+v", *m)
	n, e := c.of(d)
	want, wantE := c.ofModel(m)
	if n != want || e != wantE {
		t.Errorf("%s: %v = %d, %v, wanted %d, %v", behind, c, n, e, want, wantE)
	}
	sameDrain(t, behind+", "+c.String(), d, m)
	return n, e
}

// sameDrain holds what a drain tells of itself against a model.
func sameDrain(t *testing.T, what string, d *Drain, m *drainModel) {
	t.Helper()
	if got := d.Got(); string(got) != m.got || d.Closed() != (m.is == "closed") {
		t.Errorf("%s: got %q, closed %v, wanted %q, and %s", what, got, d.Closed(), m.got, m.is)
	}
}

// bothDrains makes a new drain, and the model of it.
func bothDrains(t *testing.T, o Out) (*Drain, *drainModel) {
	t.Helper()
	d, e := NewDrain(o)
	if d == nil || e != api.OK {
		t.Fatalf("NewDrain(%v) = %v, %v", o, d, e)
	}
	m := &drainModel{takes: slices.Clone(o.Takes), end: o.End, is: "open"}
	sameDrain(t, fmt.Sprint(o), d, m)
	return d, m
}

// checkDrain makes the calls of a new drain.
func checkDrain(t *testing.T, o Out, calls ...drainCall) (*Drain, *drainModel) {
	t.Helper()
	d, m := bothDrains(t, o)
	for _, c := range calls {
		c.make(t, d, m)
	}
	return d, m
}

// P16.1: an outflow is right if its end is, and each number is 0 or more.
func TestNewDrain(t *testing.T) {
	right := [][]int{nil, {}, {0}, {1}, {0, 0, 0}, {math.MaxInt}, {5, 0, math.MaxInt, 1 << 32}}
	for _, takes := range right {
		for _, end := range ends() {
			bothDrains(t, Out{takes, end})
		}
		for _, end := range wrongEnds() {
			refuseDrain(t, Out{takes, end})
		}
	}
	for _, wrong := range belowOne()[1:] {
		for _, takes := range right {
			for at := range len(takes) + 1 {
				for _, end := range append(ends(), wrongEnds()...) {
					refuseDrain(t, Out{slices.Insert(slices.Clone(takes), at, wrong), end})
				}
			}
		}
	}
}

func refuseDrain(t *testing.T, o Out) {
	t.Helper()
	if d, e := NewDrain(o); d != nil || e != api.ErrArg {
		t.Errorf("NewDrain(%v) = %v, %v, wanted ErrArg", o, d, e)
	}
}

// drainStep is one call, with what it answers, and what the drain got and whether it is closed behind it.
type drainStep struct {
	drainCall
	n      int
	e      api.Errno
	got    string
	closed bool
}

// P16.3: stories written out.
func TestDrainStories(t *testing.T) {
	for _, story := range []struct {
		out   Out
		steps []drainStep
	}{
		// as many as the number says, one more, one less, none
		{Out{[]int{3, 3, 3, 0, 1}, Stuck}, []drainStep{
			{write("abc"), 3, api.OK, "abc", false},
			{write("defg"), 3, api.OK, "abcdef", false},
			{write("gh"), 2, api.OK, "abcdefgh", false},
			{write("i"), 0, api.OK, "abcdefgh", false},
			{write("i"), 1, api.OK, "abcdefghi", false},
			{write("j"), 0, api.OK, "abcdefghi", false},
			{write("j"), 0, api.OK, "abcdefghi", false},
			{write(""), 0, api.OK, "abcdefghi", false},
			{closing, 0, api.OK, "abcdefghi", true},
			{write("j"), 0, api.ErrShut, "abcdefghi", true},
			{write(""), 0, api.ErrShut, "abcdefghi", true},
			{closing, 0, api.ErrShut, "abcdefghi", true},
		}},
		// a write of no bytes uses no number
		{Out{[]int{1, 2}, Free}, []drainStep{
			{write(""), 0, api.OK, "", false},
			{write("ab"), 1, api.OK, "a", false},
			{write(""), 0, api.OK, "a", false},
			{write("bcd"), 2, api.OK, "abc", false},
			{write(""), 0, api.OK, "abc", false},
			{write("defg"), 4, api.OK, "abcdefg", false},
			{write("h"), 1, api.OK, "abcdefgh", false},
		}},
		// gone as soon as a write that has bytes finds no number left, and not ahead of that
		{Out{[]int{1}, Reset}, []drainStep{
			{write("ab"), 1, api.OK, "a", false},
			{write(""), 0, api.OK, "a", false},
			{write("b"), 0, api.ErrReset, "a", false},
			{write("b"), 0, api.ErrReset, "a", false},
			{write(""), 0, api.ErrReset, "a", false},
			{closing, 0, api.ErrReset, "a", false},
			{closing, 0, api.ErrReset, "a", false},
		}},
		// closed with no number left ahead of being gone
		{Out{[]int{1}, Reset}, []drainStep{
			{write("a"), 1, api.OK, "a", false},
			{closing, 0, api.OK, "a", true},
			{write("b"), 0, api.ErrShut, "a", true},
			{write(""), 0, api.ErrShut, "a", true},
			{closing, 0, api.ErrShut, "a", true},
		}},
		// no numbers, at each end
		{Out{nil, Stuck}, []drainStep{{write("a"), 0, api.OK, "", false}, {write("a"), 0, api.OK, "", false}, {closing, 0, api.OK, "", true}}},
		{Out{nil, Free}, []drainStep{{write("ab"), 2, api.OK, "ab", false}, {write("a"), 1, api.OK, "aba", false}, {closing, 0, api.OK, "aba", true}}},
		{Out{nil, Reset}, []drainStep{{write(""), 0, api.OK, "", false}, {write("a"), 0, api.ErrReset, "", false}, {write("a"), 0, api.ErrReset, "", false}}},
		// noughts alone, each of which is used
		{Out{[]int{0, 0}, Free}, []drainStep{{write("a"), 0, api.OK, "", false}, {write("a"), 0, api.OK, "", false}, {write("a"), 1, api.OK, "a", false}}},
		{Out{[]int{0, 0}, Reset}, []drainStep{{write("a"), 0, api.OK, "", false}, {write("a"), 0, api.OK, "", false}, {write("a"), 0, api.ErrReset, "", false}}},
		// the greatest number is one, that is used by one write
		{Out{[]int{math.MaxInt}, Stuck}, []drainStep{{write("abc"), 3, api.OK, "abc", false}, {write("d"), 0, api.OK, "abc", false}}},
		// closed ahead of all
		{Out{[]int{5}, Free}, []drainStep{{closing, 0, api.OK, "", true}, {write("abc"), 0, api.ErrShut, "", true}, {closing, 0, api.ErrShut, "", true}}},
	} {
		d, m := bothDrains(t, story.out)
		for i, step := range story.steps {
			n, e := step.make(t, d, m)
			if got := d.Got(); n != step.n || e != step.e || string(got) != step.got || d.Closed() != step.closed {
				t.Errorf("%v, step %d, %v = %d, %v, %q, %v, wanted %d, %v, %q, %v", story.out, i, step.drainCall, n, e, got, d.Closed(), step.n, step.e, step.got, step.closed)
			}
		}
	}
}

// P16.3: Write's edges: numbers from 0 to the greatest, and bytes from none to more than the number says.
func TestWrite(t *testing.T) {
	for _, end := range ends() {
		for _, number := range []int{0, 1, 2, 7, 255, 256, 300, 1 << 31, 1 << 32, 1<<32 + 1, math.MaxInt - 1, math.MaxInt} {
			for _, length := range []int{0, 1, 2, number - 1, number, number + 1, 299} {
				if length < 0 || length > 400 {
					continue
				}
				d, m := bothDrains(t, Out{[]int{1, number, 2}, end})
				write("first").make(t, d, m)
				text := strings.Repeat("0123456789", 40)[:length]
				if n, e := write(text).make(t, d, m); n != min(number, length) || e != api.OK {
					t.Errorf("%d, Write of %d bytes = %d, %v", number, length, n, e)
				}
				for _, c := range []drainCall{write(""), write("third"), write("fourth"), write(""), write("fifth"), closing, write("x"), write("")} {
					c.make(t, d, m)
				}
			}
		}
	}
}

// P16.3: nil is no bytes: with numbers left, with none, closed, gone.
func TestWriteOfNil(t *testing.T) {
	for _, end := range ends() {
		d, m := bothDrains(t, Out{[]int{1}, end})
		writeNil := func(what string) {
			t.Helper()
			n, e := d.Write(nil)
			want, wantE := m.write("")
			if n != want || e != wantE {
				t.Errorf("end %d, %s: Write(nil) = %d, %v, wanted %d, %v", end, what, n, e, want, wantE)
			}
			sameDrain(t, what, d, m)
		}
		for range 3 {
			writeNil("a number left")
		}
		write("ab").make(t, d, m)
		writeNil("none left")
		write("ab").make(t, d, m)
		writeNil("behind the last")
		closing.make(t, d, m)
		writeNil("behind Close")
	}
}

// P16.3: Close behind each number of Writes, twice.
func TestClose(t *testing.T) {
	for _, end := range ends() {
		for writes := range 6 {
			d, m := bothDrains(t, Out{[]int{1, 0, 2}, end})
			for range writes {
				write("abc").make(t, d, m)
			}
			gone := end == 2 && writes > 3
			want := []api.Errno{api.OK, api.ErrShut}
			if gone {
				want = []api.Errno{api.ErrReset, api.ErrReset}
			}
			for i := range 2 {
				if _, e := closing.make(t, d, m); e != want[i] || d.Closed() == gone {
					t.Errorf("end %d, %d writes, Close %d = %v, closed %v", end, writes, i, e, d.Closed())
				}
			}
			for _, c := range []drainCall{write(""), write("d"), closing} {
				c.make(t, d, m)
			}
		}
	}
}

// P16.4: what a drain got are the bytes that were taken, in order: what isn't taken of a text is written again, till all of it is got.
func TestWrittenThrough(t *testing.T) {
	random := rand.New(rand.NewSource(1640))
	for range 300 {
		o := Out{End: Free}
		for range random.Intn(30) {
			o.Takes = append(o.Takes, random.Intn(5))
		}
		text := make([]byte, random.Intn(80))
		random.Read(text)
		d, m := bothDrains(t, o)
		for left := string(text); left != ""; {
			n, _ := write(left[:1+random.Intn(len(left))]).make(t, d, m)
			left = left[n:]
		}
		if got := d.Got(); string(got) != string(text) {
			t.Fatalf("%v: got %q, wanted %q", o, got, text)
		}
	}
}

// P16.3: every story of up to four calls of a menu, over several outflows.
func TestEveryDrainStory(t *testing.T) {
	menu := []drainCall{write(""), write("a"), write("bc"), write("def"), closing}
	for _, end := range ends() {
		for _, takes := range [][]int{nil, {0}, {1}, {2}, {3}, {0, 1}, {1, 0}, {2, 2}, {0, 0, 0}, {math.MaxInt, 1}, {1, 2, 3, 4}} {
			var tell func(calls []drainCall)
			tell = func(calls []drainCall) {
				if len(calls) == 4 {
					checkDrain(t, Out{takes, end}, calls...)
					return
				}
				for _, c := range menu {
					tell(append(calls[:len(calls):len(calls)], c))
				}
			}
			tell(nil)
		}
	}
}

// anyOut tells an outflow.
func anyOut(random *rand.Rand) Out {
	o := Out{End: random.Intn(3)}
	for range random.Intn(10) {
		o.Takes = append(o.Takes, []int{0, 1, 2, 3, 5, random.Intn(20), math.MaxInt}[random.Intn(7)])
	}
	return o
}

// anyDrainCall tells a call, of which few close.
func anyDrainCall(random *rand.Rand) drainCall {
	switch random.Intn(30) {
	case 0:
		return closing
	case 1, 2, 3:
		return write("")
	}
	b := make([]byte, 1+random.Intn(12))
	random.Read(b)
	return write(string(b))
}

// P16.3: long stories of any calls.
func TestAnyDrainStories(t *testing.T) {
	random := rand.New(rand.NewSource(163))
	for range 4000 {
		d, m := bothDrains(t, anyOut(random))
		for range random.Intn(40) {
			anyDrainCall(random).make(t, d, m)
		}
		if t.Failed() {
			return
		}
	}
}

// P16.1 and P16.3 with R4: what is written over the numbers, the bytes of a Write, and what was told, makes no difference; none of them is changed.
func TestDrainSharesNothing(t *testing.T) {
	for _, end := range ends() {
		takes := []int{2, 0, 9, 1, 77}
		o := Out{takes[:4], end}
		d, m := bothDrains(t, o)
		if !slices.Equal(takes, []int{2, 0, 9, 1, 77}) {
			t.Errorf("NewDrain changed the numbers: %v", takes)
		}
		for i := range takes {
			takes[i] = 5
		}
		var answers [][]byte
		var wants []string
		for range 6 {
			room := []byte("abcdefgh")
			n, e := d.Write(room[1:4])
			if want, wantE := m.write("bcd"); n != want || e != wantE || string(room) != "abcdefgh" {
				t.Errorf("Write = %d, %v, wanted %d, %v, of %q", n, e, want, wantE, room)
			}
			overwrite(room)
			sameDrain(t, "bytes overwritten", d, m)
			answers, wants = append(answers, d.Got()), append(wants, m.got)
			for i := range answers {
				if string(answers[i]) != wants[i] {
					t.Errorf("answer %d is %q, was %q", i, answers[i], wants[i])
				}
			}
			again := d.Got()
			overwrite(again)
			sameDrain(t, "an answer overwritten", d, m)
		}
		if !slices.Equal(takes, []int{5, 5, 5, 5, 5}) {
			t.Errorf("Writes changed the numbers: %v", takes)
		}
		for _, b := range answers {
			overwrite(b)
		}
		sameDrain(t, "all answers overwritten", d, m)
	}
}

// P16.3 with R5: asking changes nothing, and what other drains are told makes no difference.
func TestDrainsAreApart(t *testing.T) {
	calls := []drainCall{write("abc"), write(""), write("d"), write("efg"), write("hi"), write("j"), closing, write("k")}
	for _, end := range ends() {
		o := Out{[]int{2, 0, 9}, end}
		var drains [6]*Drain
		var models [6]*drainModel
		for k := range drains {
			drains[k], models[k] = bothDrains(t, o)
		}
		for at := range len(calls) + len(drains) {
			for k := range drains {
				if n := at - k; n >= 0 && n < len(calls) {
					calls[n].make(t, drains[k], models[k])
				}
				for range 2 {
					sameDrain(t, fmt.Sprintf("step %d, drain %d", at, k), drains[k], models[k])
				}
			}
		}
	}
}

// R5: the same calls answer the same, however often.
func TestSameAgain(t *testing.T) {
	tell := func() (said []string) {
		random := rand.New(rand.NewSource(165))
		s, _ := NewSource(anyIn(random))
		d, _ := NewDrain(anyOut(random))
		for range 60 {
			b, e := anySourceCall(random).of(s)
			n, e2 := anyDrainCall(random).of(d)
			said = append(said, fmt.Sprint(b, e, s.Reads(), n, e2, d.Got(), d.Closed()))
		}
		return said
	}
	first := tell()
	for range 20 {
		if again := tell(); !slices.Equal(again, first) {
			t.Fatal("the same calls answered otherwise")
		}
	}
}
