package intake

import (
	"bytes"
	"fmt"
	"math"
	"math/rand"
	"slices"
	"strconv"
	"strings"
	"sync"
	"testing"

	"catchpit/api"
	"catchpit/body"
)

var (
	noLimits = api.Limits{}
	wide     = api.Limits{Ext: api.MaxLimit, Fields: api.MaxLimit, Bytes: api.MaxLimit}
	narrow   = api.Limits{Ext: 3, Fields: 2, Bytes: 10}
	none     = api.Framing{Kind: api.Nothing}
	inChunks = api.Framing{Kind: api.Chunked}
	toClose  = api.Framing{Kind: api.UntilClose}
)

func fixedOf(size uint64) api.Framing { return api.Framing{Kind: api.Fixed, Size: size} }

func f(name, value string) api.Field { return api.Field{Name: name, Value: value} }

// state is all that an intake tells of itself.
type state struct {
	done         bool
	err          api.Errno
	fields       string
	taken, given int64
	wants        uint64
}

func stateOf(i *Intake) state {
	return state{i.Done(), i.Err(), fmt.Sprintf("%q", i.Fields()), i.Taken(), i.Given(), i.Wants()}
}

// model is what the chapter's words say of an intake: asked anew of all that it took, byte by byte.
type model struct {
	framing api.Framing
	limits  api.Limits
	input   []byte
	closed  bool
	wrong   api.Errno
}

func (m *model) done() bool {
	switch m.framing.Kind {
	case api.Fixed:
		return uint64(len(m.input)) == m.framing.Size
	case api.Chunked:
		_, at, e := body.Scan(m.input, m.limits)
		return e == api.OK && at == len(m.input)
	case api.UntilClose:
		return m.closed
	}
	return true
}

// data tells the data of all that it took.
func (m *model) data() string {
	if m.framing.Kind == api.Chunked {
		return string(body.Payload(m.input, m.limits))
	}
	return string(m.input)
}

// refuses tells the error of the byte that would be next, if it may not be.
func (m *model) refuses(c byte) api.Errno {
	if m.framing.Kind != api.Chunked {
		return api.OK
	}
	_, at, e := body.Scan(append(bytes.Clone(m.input), c), m.limits)
	if e == api.ErrMore || at != len(m.input) {
		return api.OK
	}
	return e
}

func (m *model) put(b string) (data string, n int, e api.Errno) {
	ahead := len(m.data())
	for m.wrong == api.OK && n < len(b) && !m.done() {
		if m.wrong = m.refuses(b[n]); m.wrong == api.OK {
			m.input = append(m.input, b[n])
			n++
		}
	}
	return m.data()[ahead:], n, m.wrong
}

func (m *model) close() api.Errno {
	switch {
	case m.wrong != api.OK || m.done():
	case m.framing.Kind == api.UntilClose:
		m.closed = true
	default:
		m.wrong = api.ErrMore
	}
	return m.wrong
}

func (m *model) wants() uint64 {
	switch {
	case m.done() || m.wrong != api.OK:
		return 0
	case m.framing.Kind == api.Fixed:
		return m.framing.Size - uint64(len(m.input))
	}
	return api.MaxSize
}

func (m *model) state() state {
	var fields []api.Field
	if m.framing.Kind == api.Chunked && m.done() {
		b, _, _ := body.Scan(m.input, m.limits)
		fields = b.Fields
	}
	return state{m.done(), m.wrong, fmt.Sprintf("%q", fields), int64(len(m.input)), int64(len(m.data())), m.wants()}
}

// call is one call of an intake: its Close, or a piece that it is handed.
type call struct {
	closes bool
	piece  string
}

func (c call) String() string {
	if c.closes {
		return "Close()"
	}
	return fmt.Sprintf("Put(%.40q)", c.piece)
}

func put(piece string) call { return call{piece: piece} }

func puts(pieces ...string) []call {
	calls := make([]call, len(pieces))
	for i, piece := range pieces {
		calls[i] = put(piece)
	}
	return calls
}

var closing = call{closes: true}

// make makes the call of both, and holds what they answer, and what they tell behind it, against each other.
func (c call) make(t *testing.T, i *Intake, m *model) {
	t.Helper()
	name := fmt.Sprintf("%v, %v, behind %.40q: %v", m.framing, m.limits, m.input, c)
	if c.closes {
		if e, want := i.Close(), m.close(); e != want {
			t.Errorf("%s = %v, wanted %v", name, e, want)
		}
	} else {
		data, n, e := i.Put([]byte(c.piece))
		wantData, wantN, wantE := m.put(c.piece)
		if string(data) != wantData || n != wantN || e != wantE {
			t.Errorf("%s = %.40q, %d, %v, wanted %.40q, %d, %v", name, data, n, e, wantData, wantN, wantE)
		}
	}
	if got, want := stateOf(i), m.state(); got != want {
		t.Errorf("%s: %+v, wanted %+v", name, got, want)
	}
}

// both makes a new intake, and the model of it.
func both(t *testing.T, framing api.Framing, l api.Limits) (*Intake, *model) {
	t.Helper()
	i, e := New(framing, l)
	if i == nil || e != api.OK {
		t.Fatalf("New(%v, %v) = %v, %v", framing, l, i, e)
	}
	m := &model{framing: framing, limits: l}
	if got, want := stateOf(i), m.state(); got != want {
		t.Errorf("New(%v, %v) has %+v, wanted %+v", framing, l, got, want)
	}
	return i, m
}

// check makes the calls of a new intake.
func check(t *testing.T, framing api.Framing, l api.Limits, calls ...call) {
	t.Helper()
	i, m := both(t, framing, l)
	for _, c := range calls {
		c.make(t, i, m)
	}
}

// checkClosings makes the calls with a Close ahead of each of them, and twice behind all.
func checkClosings(t *testing.T, framing api.Framing, l api.Limits, calls ...call) {
	t.Helper()
	for at := range len(calls) + 1 {
		check(t, framing, l, slices.Insert(slices.Clone(calls), at, closing)...)
	}
	check(t, framing, l, append(slices.Clone(calls), closing, closing, put("x"), closing)...)
}

// checkCuts hands over a text whole, byte by byte, and cut in two anywhere, and closes anywhere.
func checkCuts(t *testing.T, framing api.Framing, l api.Limits, s string) {
	t.Helper()
	checkClosings(t, framing, l, put(s))
	checkClosings(t, framing, l, puts(single(s)...)...)
	for at := range len(s) + 1 {
		checkClosings(t, framing, l, put(s[:at]), put(s[at:]))
	}
}

// single tells the pieces of one byte.
func single(s string) []string {
	pieces := make([]string, len(s))
	for i := range len(s) {
		pieces[i] = s[i : i+1]
	}
	return pieces
}

// sizes are sizes about all edges, those of other widths of numbers among them.
func sizes() []uint64 {
	const most = api.MaxSize
	return []uint64{0, 1, 2, 3, 255, 256, 65535, 65536, 1<<31 - 1, 1 << 31, 1<<32 - 1, 1 << 32, 1<<53 + 1, most - 1, most, most + 1, most + 2, 1<<63 - 1, 1 << 63, math.MaxUint64 - 1, math.MaxUint64}
}

// P12.1: all kinds, and those below the first and behind the last, with each size.
func TestRight(t *testing.T) {
	for _, kind := range []int{0, 1, 2, 3, 4, 5, 6, 7, 255, 256, 257, 1 << 32, 1<<32 + 1, math.MaxInt, -1, -2, -3, math.MinInt, math.MinInt + 1} {
		for _, size := range sizes() {
			framing := api.Framing{Kind: kind, Size: size}
			want := kind >= 0 && kind <= 3 && (kind == 1 && size <= 0x3fffffffffffffff || size == 0)
			if got := Right(framing); got != want {
				t.Errorf("Right(%v) = %v", framing, got)
			}
			i, e := New(framing, wide)
			if want && (i == nil || e != api.OK) || !want && (i != nil || e != api.ErrArg) {
				t.Errorf("New(%v) = %v, %v", framing, i, e)
			}
		}
	}
}

// P12.1: an intake without input.
func TestNew(t *testing.T) {
	for _, x := range []struct {
		framing api.Framing
		want    state
	}{
		{none, state{done: true}},
		{fixedOf(0), state{done: true}},
		{fixedOf(1), state{wants: 1}},
		{fixedOf(1 << 40), state{wants: 1 << 40}},
		{fixedOf(api.MaxSize), state{wants: 1<<62 - 1}},
		{inChunks, state{wants: 1<<62 - 1}},
		{toClose, state{wants: 1<<62 - 1}},
	} {
		for _, l := range []api.Limits{noLimits, narrow, wide} {
			i, e := New(x.framing, l)
			if i == nil || e != api.OK {
				t.Fatalf("New(%v, %v) = %v, %v", x.framing, l, i, e)
			}
			x.want.fields = "[]"
			if got := stateOf(i); got != x.want {
				t.Errorf("New(%v, %v) has %+v, wanted %+v", x.framing, l, got, x.want)
			}
		}
	}
}

// P12.1: limits that are right and that aren't, beside framings of which most hang on no limit.
func TestNewAsksForLimits(t *testing.T) {
	wrong := []int{-1, -2, -65536, 65537, 65538, 1 << 17, 1 << 32, 1<<32 + 1, -1 << 32, math.MaxInt, math.MinInt}
	for _, framing := range []api.Framing{none, fixedOf(0), fixedOf(5), fixedOf(api.MaxSize), inChunks, toClose} {
		for _, n := range []int{0, 1, 2, 65535, 65536} {
			for _, l := range []api.Limits{{Ext: n}, {Fields: n}, {Bytes: n}, {Ext: n, Fields: n, Bytes: n}} {
				if i, e := New(framing, l); i == nil || e != api.OK {
					t.Errorf("New(%v, %v) = %v, %v", framing, l, i, e)
				}
			}
		}
		for _, n := range wrong {
			for _, l := range []api.Limits{{Ext: n}, {Fields: n}, {Bytes: n}, {Ext: n, Fields: n, Bytes: n}, {Ext: n, Fields: 5, Bytes: 50}, {Ext: 5, Fields: n, Bytes: 50}, {Ext: 5, Fields: 50, Bytes: n}} {
				if i, e := New(framing, l); i != nil || e != api.ErrArg {
					t.Errorf("New(%v, %v) = %v, %v, wanted nothing, ErrArg", framing, l, i, e)
				}
			}
		}
	}
	for _, framing := range []api.Framing{{Kind: 4}, {Kind: -1}, {Kind: api.Chunked, Size: 1}, fixedOf(api.MaxSize + 1)} {
		if i, e := New(framing, api.Limits{Ext: -1}); i != nil || e != api.ErrArg {
			t.Errorf("New(%v, wrong limits) = %v, %v", framing, i, e)
		}
	}
}

// step is one piece or Close, and what is told of it and behind it.
type step struct {
	call
	data  string
	n     int
	e     api.Errno
	done  bool
	wants uint64
}

// told tells a step of a piece, and shut one of a Close.
func told(piece, data string, n int, e api.Errno, done bool, wants uint64) step {
	return step{put(piece), data, n, e, done, wants}
}

func shut(e api.Errno, done bool) step { return step{closing, "", 0, e, done, 0} }

// P12.2 and P12.3: stories written out.
func TestStories(t *testing.T) {
	const most = api.MaxSize
	for _, x := range []struct {
		framing api.Framing
		steps   []step
	}{
		// the chapter's example
		{fixedOf(3), []step{told("abcd", "abc", 3, api.OK, true, 0), shut(api.OK, true), told("d", "", 0, api.OK, true, 0)}},
		// just what is left, one byte less, more
		{fixedOf(3), []step{told("abc", "abc", 3, api.OK, true, 0), told("", "", 0, api.OK, true, 0), shut(api.OK, true), shut(api.OK, true)}},
		{fixedOf(3), []step{told("ab", "ab", 2, api.OK, false, 1), told("", "", 0, api.OK, false, 1), told("cd", "c", 1, api.OK, true, 0)}},
		{fixedOf(3), []step{told("", "", 0, api.OK, false, 3), told("a", "a", 1, api.OK, false, 2), told("b", "b", 1, api.OK, false, 1), told("c", "c", 1, api.OK, true, 0)}},
		{fixedOf(most), []step{told("abc", "abc", 3, api.OK, false, most-3), shut(api.ErrMore, false)}},
		// cut off
		{fixedOf(3), []step{shut(api.ErrMore, false), told("abc", "", 0, api.ErrMore, false, 0), shut(api.ErrMore, false)}},
		{fixedOf(3), []step{told("ab", "ab", 2, api.OK, false, 1), shut(api.ErrMore, false), told("c", "", 0, api.ErrMore, false, 0), told("", "", 0, api.ErrMore, false, 0)}},
		// nothing, and a size of 0
		{none, []step{told("abc", "", 0, api.OK, true, 0), shut(api.OK, true), told("abc", "", 0, api.OK, true, 0)}},
		{none, []step{shut(api.OK, true), told("", "", 0, api.OK, true, 0)}},
		{fixedOf(0), []step{told("abc", "", 0, api.OK, true, 0), shut(api.OK, true), told("abc", "", 0, api.OK, true, 0)}},
		{fixedOf(0), []step{shut(api.OK, true), shut(api.OK, true)}},
		// until the connection's end
		{toClose, []step{told("abc", "abc", 3, api.OK, false, most), told("", "", 0, api.OK, false, most), told("0\r\n\r\n", "0\r\n\r\n", 5, api.OK, false, most), shut(api.OK, true), told("d", "", 0, api.OK, true, 0), shut(api.OK, true)}},
		{toClose, []step{shut(api.OK, true), told("abc", "", 0, api.OK, true, 0)}},
		// chunked: whole, cut, cut off, refused
		{inChunks, []step{told("3\r\nabc\r\n0\r\n\r\nx", "abc", 13, api.OK, true, 0), told("x", "", 0, api.OK, true, 0), shut(api.OK, true)}},
		{inChunks, []step{told("3\r", "", 2, api.OK, false, most), told("\nab", "ab", 3, api.OK, false, most), told("c\r\n1", "c", 4, api.OK, false, most), told("\r\nd\r\n0\r\na: 1\r\n\r", "d", 15, api.OK, false, most), told("\n\n", "", 1, api.OK, true, 0)}},
		{inChunks, []step{shut(api.ErrMore, false), told("0\r\n\r\n", "", 0, api.ErrMore, false, 0)}},
		{inChunks, []step{told("0\r\n\r", "", 4, api.OK, false, most), shut(api.ErrMore, false), told("\n", "", 0, api.ErrMore, false, 0), shut(api.ErrMore, false)}},
		{inChunks, []step{told("1\r\na\r\nx", "a", 6, api.ErrForm, false, 0), told("0\r\n\r\n", "", 0, api.ErrForm, false, 0), shut(api.ErrForm, false), told("", "", 0, api.ErrForm, false, 0)}},
		{inChunks, []step{told("1\r\na\r\n0;123", "a", 11, api.OK, false, most), told("4", "", 0, api.ErrLimit, false, 0), shut(api.ErrLimit, false)}},
		{inChunks, []step{told("4000000000000000", "", 15, api.ErrBig, false, 0), shut(api.ErrBig, false), shut(api.ErrBig, false)}},
	} {
		i, m := both(t, x.framing, api.Limits{Ext: 4, Fields: 1, Bytes: 9})
		taken, given := 0, 0
		for at, s := range x.steps {
			var data []byte
			n, e := 0, api.OK
			if s.closes {
				e = i.Close()
			} else {
				data, n, e = i.Put([]byte(s.piece))
			}
			if string(data) != s.data || n != s.n || e != s.e {
				t.Errorf("%v, step %d: %v = %q, %d, %v, wanted %q, %d, %v", x.framing, at, s.call, data, n, e, s.data, s.n, s.e)
			}
			taken, given = taken+n, given+len(data)
			if i.Done() != s.done || i.Wants() != s.wants || i.Err() != s.e || i.Taken() != int64(taken) || i.Given() != int64(given) {
				t.Errorf("%v, step %d, behind %v: %+v, wanted done %v, wants %d, %v, %d, %d", x.framing, at, s.call, stateOf(i), s.done, s.wants, s.e, taken, given)
			}
		}
		check(t, x.framing, m.limits, callsOf(x.steps)...)
	}
}

func callsOf(steps []step) []call {
	calls := make([]call, len(steps))
	for i, s := range steps {
		calls[i] = s.call
	}
	return calls
}

// P12.3: trailers are told when a chunked body is done, and of no other framing.
func TestFields(t *testing.T) {
	const section = "a: 1\r\nA:\r\n\r\n"
	want := []api.Field{f("a", "1"), f("A", "")}
	i, _ := both(t, inChunks, wide)
	for _, c := range []byte("2\r\nab\r\n0\r\n" + section) {
		if got := i.Fields(); len(got) != 0 || i.Done() {
			t.Errorf("ahead of the end: %q, %+v", got, stateOf(i))
		}
		i.Put([]byte{c})
	}
	for range 2 {
		if got := i.Fields(); !slices.Equal(got, want) {
			t.Errorf("%q, wanted %q", got, want)
		}
		if e := i.Close(); e != api.OK {
			t.Error(e)
		}
	}
	for _, cut := range []string{"0\r\na: 1\r\n", "0\r\na: 1\r\n\r", "0\r\na: 1\r\n\rx", "0\r\na: 1\r\n:"} {
		i, _ := both(t, inChunks, wide)
		i.Put([]byte(cut))
		i.Close()
		if got := i.Fields(); len(got) != 0 {
			t.Errorf("%q: %q", cut, got)
		}
	}
	for _, framing := range []api.Framing{none, fixedOf(0), fixedOf(5 + uint64(len(section))), toClose} {
		i, _ := both(t, framing, wide)
		i.Put([]byte("0\r\n" + section))
		i.Put([]byte("\r\n"))
		i.Close()
		if got := i.Fields(); len(got) != 0 || !i.Done() {
			t.Errorf("%v: %q, %+v", framing, got, stateOf(i))
		}
	}
}

// chunkedTexts are bodies, and texts that are refused at their last byte, at the first one or behind some, by each error.
func chunkedTexts() []string {
	noughts := strings.Repeat("0", 15)
	return []string{
		"", "0\r\n\r\n", "0000000000000000;\r\n\r\n", "3\r\nabc\r\n0\r\n\r\n", "1\r\na\r\n2\r\nbc\r\n00;x\r\n\r\nmore",
		"A;\r\n0123456789\r\n0\r\na: 1\r\n\r\n", "2\r\n\r\n\r\n0\r\na:1\r\nb:\r\n\r\n0\r\n\r\n", "0\r\na:\r\nb:\r\n\r\n",
		"z", "\r", "\x00", ";", "3x", "3\rx", "3\n", "3;\x00", "1\r\nab", "1\r\na\rx", "1\r\na\r\n\r", "1\r\na\r\n0\r\n:", "1\r\na\r\n0\r\na ", "0\r\na: \x7f", "0\r\na:\rx", "0\r\n\r\r",
		noughts + "00", noughts + "0g", "4000000000000000", "1\r\na\r\nffffffffffffffff", "3fffffffffffffff\r\nabc",
		"0;123", "1;12\r\na\r\n0;123", "0\r\na:\r\nb:\r\nc", "0\r\na:1234567\r\n", "1\r\na\r\n0\r\na: 2345678",
	}
}

// P12.2 to P12.4: chunked in one piece, byte by byte, and cut anywhere; closed anywhere; with limits that are 0, narrow and wide.
func TestChunked(t *testing.T) {
	for _, s := range chunkedTexts() {
		for _, l := range []api.Limits{noLimits, narrow, wide} {
			checkCuts(t, inChunks, l, s)
		}
	}
}

// P12.2: each error at the first byte, and behind some, with each byte there.
func TestEachByte(t *testing.T) {
	for _, ahead := range []string{"", "3", "3\r", "3\r\n", "3\r\nabc", "3\r\nabc\r", "3\r\nabc\r\n", "0\r\n", "0\r\n\r", "0\r\na", "0\r\na:", "0\r\na:\r", "0\r\na:\r\n", "0;12", "0000000000000000", "400000000000000"} {
		for c := range 256 {
			s := ahead + string([]byte{byte(c)})
			check(t, inChunks, narrow, put(s), put("x"), closing)
			check(t, inChunks, noLimits, put(ahead), put(s[len(ahead):]), closing, put("\n"))
		}
	}
	for c := range 256 {
		s := string([]byte{byte(c), byte(c), byte(c)})
		for _, framing := range []api.Framing{none, fixedOf(0), fixedOf(1), fixedOf(2), fixedOf(3), fixedOf(4), toClose} {
			check(t, framing, noLimits, put(s), put(s), closing, put(s))
		}
	}
}

// P12.2 and P12.3: every story of up to four calls out of few.
func TestEveryStory(t *testing.T) {
	for _, framing := range []api.Framing{none, fixedOf(0), fixedOf(1), fixedOf(2), fixedOf(3), fixedOf(4), fixedOf(5), fixedOf(9), fixedOf(api.MaxSize), toClose} {
		everyStory(t, framing, nil, puts("", "a", "bc", "\r\n0"))
	}
	everyStory(t, inChunks, nil, puts("", "0", "1", "\r\n", "a: b\r\n", "2\r\nab\r\n", "0\r\n", "x", ";"))
}

func everyStory(t *testing.T, framing api.Framing, story, some []call) {
	if len(story) == 4 {
		check(t, framing, narrow, story...)
		return
	}
	for _, c := range append(slices.Clone(some), closing) {
		everyStory(t, framing, append(slices.Clone(story), c), some)
	}
}

// end is what came of a body: all that it told together, and what it tells at last.
type end struct {
	data string
	at   state
}

// endOf hands the pieces to a new intake, and closes it.
func endOf(t *testing.T, framing api.Framing, l api.Limits, pieces []string) end {
	t.Helper()
	i, _ := both(t, framing, l)
	var data []byte
	for _, piece := range pieces {
		some, _, _ := i.Put([]byte(piece))
		data = append(data, some...)
	}
	i.Close()
	return end{string(data), stateOf(i)}
}

// anyCut tells pieces, empty ones among them.
func anyCut(r *rand.Rand, s string) []string {
	var pieces []string
	for most := 1 + r.Intn(9); s != ""; {
		n := min(r.Intn(most+1), len(s))
		pieces = append(pieces, s[:n])
		s = s[n:]
	}
	return pieces
}

// anyText tells a chunked body, at times with a byte changed or with something behind it.
func anyText(r *rand.Rand) string {
	s := ""
	for range r.Intn(4) {
		n := 1 + r.Intn(20)
		s += strconv.FormatInt(int64(n), 16) + ";ext"[:r.Intn(5)]
		s += "\r\n" + strings.Repeat("0\r\na:;", 4)[:n] + "\r\n"
	}
	s += "000"[:1+r.Intn(3)] + "\r\n" + strings.Repeat("a: 1\r\n", r.Intn(4)) + "\r\n"
	if at := r.Intn(2 * len(s)); at < len(s) {
		s = s[:at] + string([]byte{"0aF;: \r\n\x00\xff"[r.Intn(10)]}) + s[at+1:]
	}
	return s + "more"[:r.Intn(5)]
}

// P12.4: however a text is cut, what it tells together and at last is the same.
func TestAnyCutTellsTheSame(t *testing.T) {
	r := rand.New(rand.NewSource(12))
	for range 600 {
		s := anyText(r)
		l := api.Limits{Ext: r.Intn(5), Fields: r.Intn(4), Bytes: r.Intn(25)}
		for _, framing := range []api.Framing{none, fixedOf(uint64(r.Intn(len(s) + 3))), inChunks, toClose} {
			whole := endOf(t, framing, l, []string{s})
			for _, pieces := range [][]string{single(s), anyCut(r, s), anyCut(r, s)} {
				if got := endOf(t, framing, l, pieces); got != whole {
					t.Errorf("%v, %v, %q: %+v, wanted %+v", framing, l, pieces, got, whole)
				}
			}
			check(t, framing, l, puts(anyCut(r, s)...)...)
		}
	}
}

// P12.4: long bodies, in pieces of many sizes.
func TestLongBodies(t *testing.T) {
	data := strings.Repeat("0\r\n\r\n\x00abc", 1<<14)
	size := uint64(len(data))
	inChunk := strconv.FormatUint(size, 16) + "\r\n" + data + "\r\n"
	for _, x := range []struct {
		framing api.Framing
		s       string
		want    end
	}{
		{none, data, end{"", state{done: true}}},
		{fixedOf(size), data, end{data, state{done: true, taken: int64(size), given: int64(size)}}},
		{fixedOf(size - 1), data, end{data[:size-1], state{done: true, taken: int64(size - 1), given: int64(size - 1)}}},
		{fixedOf(size + 1), data, end{data, state{err: api.ErrMore, taken: int64(size), given: int64(size)}}},
		{toClose, data, end{data, state{done: true, taken: int64(size), given: int64(size)}}},
		{inChunks, inChunk + inChunk + "0\r\n\r\n" + data, end{data + data, state{done: true, taken: int64(2*len(inChunk) + 5), given: int64(2 * size)}}},
		{inChunks, inChunk + inChunk, end{data + data, state{err: api.ErrMore, taken: int64(2 * len(inChunk)), given: int64(2 * size)}}},
		{inChunks, inChunk + "x" + data, end{data, state{err: api.ErrForm, taken: int64(len(inChunk)), given: int64(size)}}},
	} {
		x.want.at.fields = "[]"
		for _, n := range []int{1, 2, 3, 1000, 4096, 65536, 1 << 20} {
			var pieces []string
			for piece := range slices.Chunk([]byte(x.s), n) {
				pieces = append(pieces, string(piece))
			}
			if got := endOf(t, x.framing, narrow, pieces); got != x.want {
				t.Errorf("%v by %d: %d bytes, %+v, wanted %d, %+v", x.framing, n, len(got.data), got.at, len(x.want.data), x.want.at)
			}
		}
	}
}

// P12.2 with R3: nil is a piece of no bytes.
func TestPutOfNothing(t *testing.T) {
	for _, framing := range []api.Framing{none, fixedOf(0), fixedOf(2), inChunks, toClose} {
		for _, empty := range [][]byte{nil, {}, []byte("abc")[:0]} {
			i, m := both(t, framing, wide)
			if data, n, e := i.Put(empty); len(data) != 0 || n != 0 || e != api.OK || stateOf(i) != m.state() {
				t.Errorf("%v: %q, %d, %v, %+v", framing, data, n, e, stateOf(i))
			}
			i.Close()
			if data, n, e := i.Put(empty); len(data) != 0 || n != 0 || e != i.Err() {
				t.Errorf("%v, closed: %q, %d, %v", framing, data, n, e)
			}
		}
	}
}

// P12.2 with R4: what is handed in stays as it is, its spare room too, and what is written into it later makes no difference.
func TestWhatIsHandedInIsNotKept(t *testing.T) {
	const s = "5;ex\r\nabcde\r\n2\r\nfg\r\n0\r\nName: value \r\nb:\r\n\r\n"
	for _, framing := range []api.Framing{none, fixedOf(20), inChunks, toClose} {
		want := endOf(t, framing, wide, []string{s})
		for size := 1; size <= len(s); size++ {
			i, _ := both(t, framing, wide)
			var told []byte
			room := make([]byte, size+8)
			for piece := range slices.Chunk([]byte(s), size) {
				n := copy(room, piece)
				copy(room[n:], "spare room")
				before := string(room)
				data, _, _ := i.Put(room[:n])
				if string(room) != before {
					t.Errorf("%q is %q behind the call", before, room)
				}
				overwrite(room)
				told = append(told, data...)
			}
			i.Close()
			if got := (end{string(told), stateOf(i)}); got != want {
				t.Errorf("%v by %d: %+v, wanted %+v", framing, size, got, want)
			}
		}
	}
}

// P12.2 and P12.3 with R4: what is written into an answer, its spare room too, is seen nowhere else.
func TestAnswersAreNewMemory(t *testing.T) {
	for _, framing := range []api.Framing{fixedOf(6), inChunks, toClose} {
		i, m := both(t, framing, wide)
		for _, s := range []string{"2\r\n", "ab", "c\r\n0", "\r\n\r\n"} {
			piece := []byte(s + "spare")[:len(s)]
			data, _, _ := i.Put(piece)
			kept := string(data)
			m.put(s)
			overwrite(data)
			if string(piece[:cap(piece)][:len(s)+5]) != s+"spare" {
				t.Errorf("%v: the piece is now %q", framing, piece)
			}
			if stateOf(i) != m.state() {
				t.Errorf("%v, behind %q: %+v, wanted %+v", framing, kept, stateOf(i), m.state())
			}
		}
	}
	i, _ := both(t, inChunks, wide)
	i.Put([]byte("0\r\na: 1\r\nb: 2\r\nc: 3\r\n\r\n"))
	for range 3 {
		fields := i.Fields()
		if !slices.Equal(fields, []api.Field{f("a", "1"), f("b", "2"), f("c", "3")}) {
			t.Fatalf("Fields() = %q", fields)
		}
		fields = fields[:cap(fields)]
		for n := range fields {
			fields[n] = f("over", "written")
		}
	}
}

func overwrite(b []byte) {
	b = b[:cap(b)]
	for i := range b {
		b[i] = '!'
	}
}

// P12.3 with R5: asking changes nothing, and what other intakes are handed makes no difference.
func TestIntakesAreApart(t *testing.T) {
	framings := []api.Framing{none, fixedOf(3), fixedOf(7), fixedOf(20), inChunks, inChunks, toClose, toClose}
	intakes, models := make([]*Intake, len(framings)), make([]*model, len(framings))
	for n, framing := range framings {
		intakes[n], models[n] = both(t, framing, narrow)
	}
	for at, s := range single("2\r\nab\r\n0\r\na: b\r\n\r\nmore") {
		for n := range framings {
			c := put(s)
			if at == 3*n {
				c = closing
			}
			c.make(t, intakes[n], models[n])
			if got, want := stateOf(intakes[n]), models[n].state(); got != want {
				t.Errorf("%v, asked again: %+v, wanted %+v", framings[n], got, want)
			}
		}
	}
}

// R1: several goroutines at once, with an intake each.
func TestSeveralGoroutines(t *testing.T) {
	framings := []api.Framing{none, fixedOf(3), fixedOf(70), inChunks, toClose}
	var wait sync.WaitGroup
	for n := range 8 {
		wait.Go(func() {
			for at := range 50 {
				check(t, framings[(n+at)%len(framings)], narrow, append(puts(single("2\r\nab\r\n0\r\na: b\r\n\r\nmore")...), closing)...)
			}
		})
	}
	wait.Wait()
}
