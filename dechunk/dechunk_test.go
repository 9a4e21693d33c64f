package dechunk

import (
	"bytes"
	"fmt"
	"math"
	"math/rand"
	"slices"
	"strconv"
	"strings"
	"sync"
	"testing"

	"catchpit/api"
	"catchpit/body"
)

var (
	noLimits = api.Limits{}
	wide     = api.Limits{Ext: api.MaxLimit, Fields: api.MaxLimit, Bytes: api.MaxLimit}
	narrow   = api.Limits{Ext: 3, Fields: 2, Bytes: 10}
)

func f(name, value string) api.Field { return api.Field{Name: name, Value: value} }

// state is all that a decoder tells of itself.
type state struct {
	done         bool
	err          api.Errno
	fields       string
	taken, given int64
	left         uint64
}

func stateOf(d *Decoder) state {
	return state{d.Done(), d.Err(), fmt.Sprintf("%q", d.Fields()), d.Taken(), d.Given(), d.Left()}
}

// model is what the chapter's words say of a decoder: by layer 8's Scan and Payload of all that it took, asked anew of each byte.
type model struct {
	limits api.Limits
	input  []byte
	wrong  api.Errno
}

func (m *model) done() bool {
	_, at, e := body.Scan(m.input, m.limits)
	return e == api.OK && at == len(m.input)
}

func (m *model) put(b []byte) (data string, n int, e api.Errno) {
	ahead := len(body.Payload(m.input, m.limits))
	for m.wrong == api.OK && n < len(b) && !m.done() {
		next := append(bytes.Clone(m.input), b[n])
		_, at, e := body.Scan(next, m.limits)
		if e != api.OK && e != api.ErrMore && at == len(m.input) {
			m.wrong = e
			break
		}
		m.input = next
		n++
	}
	return string(body.Payload(m.input, m.limits)[ahead:]), n, m.wrong
}

func (m *model) state() state {
	s := state{done: m.done(), err: m.wrong, taken: int64(len(m.input)), given: int64(len(body.Payload(m.input, m.limits))), left: leftOf(string(m.input))}
	var fields []api.Field
	if s.done {
		b, _, _ := body.Scan(m.input, m.limits)
		fields = b.Fields
	}
	s.fields = fmt.Sprintf("%q", fields)
	return s
}

// leftOf takes chunk by chunk off a text that goes on as a body, and tells what the last one's size says more than there is.
func leftOf(s string) uint64 {
	for {
		line, rest, whole := strings.Cut(s, "\r\n")
		digits, _, _ := strings.Cut(line, ";")
		size, _ := strconv.ParseUint(digits, 16, 64)
		switch {
		case !whole || size == 0:
			return 0
		case uint64(len(rest)) < size:
			return size - uint64(len(rest))
		}
		if s, whole = strings.CutPrefix(rest[size:], "\r\n"); !whole {
			return 0
		}
	}
}

// check hands the pieces to a new decoder, and holds what it tells behind each of them against the model.
func check(t *testing.T, l api.Limits, pieces ...string) {
	t.Helper()
	d, e := New(l)
	if e != api.OK {
		t.Fatalf("New(%v): %v", l, e)
	}
	m := &model{limits: l}
	if got, want := stateOf(d), m.state(); got != want {
		t.Errorf("%v, without input: %+v, wanted %+v", l, got, want)
	}
	told := ""
	for i, piece := range pieces {
		data, n, e := d.Put([]byte(piece))
		wantData, wantN, wantE := m.put([]byte(piece))
		if string(data) != wantData || n != wantN || e != wantE {
			t.Errorf("%v, piece %d of %q: %q, %d, %v, wanted %q, %d, %v", l, i, pieces, data, n, e, wantData, wantN, wantE)
		}
		if got, want := stateOf(d), m.state(); got != want {
			t.Errorf("%v, behind piece %d of %q: %+v, wanted %+v", l, i, pieces, got, want)
		}
		told += string(data)
	}
	checkEnd(t, d, told, strings.Join(pieces, ""))
}

// checkEnd holds what a decoder has told of a text, however it was cut, against layer 8's Payload and Scan of all of it, by P9.4.
func checkEnd(t *testing.T, d *Decoder, told, text string) {
	t.Helper()
	name := strconv.Quote(text[:min(len(text), 100)])
	if payload := body.Payload([]byte(text), d.limits); told != string(payload) || d.Given() != int64(len(payload)) {
		t.Errorf("%s: %d bytes of data, %d given, wanted Payload's %d", name, len(told), d.Given(), len(payload))
	}
	b, at, e := body.Scan([]byte(text), d.limits)
	wrong := e
	if e == api.ErrMore {
		wrong = api.OK
	}
	if d.Done() != (e == api.OK) || d.Err() != wrong || d.Taken() != int64(at) || !slices.Equal(d.Fields(), b.Fields) {
		t.Errorf("%s: %+v, wanted Scan's %d, %v, %q", name, stateOf(d), at, e, b.Fields)
	}
}

// checkCuts hands over a text whole, byte by byte, and cut in two anywhere.
func checkCuts(t *testing.T, l api.Limits, s string) {
	t.Helper()
	check(t, l, s)
	check(t, l, single(s)...)
	for at := range len(s) + 1 {
		check(t, l, s[:at], s[at:])
	}
}

// single tells the pieces of one byte.
func single(s string) []string {
	pieces := make([]string, len(s))
	for i := range len(s) {
		pieces[i] = s[i : i+1]
	}
	return pieces
}

// P9.1
func TestNew(t *testing.T) {
	good := []int{0, 1, 2, 100, 65535, 65536}
	for _, a := range good {
		for _, b := range good {
			for _, l := range []api.Limits{{Ext: a, Fields: b, Bytes: b}, {Ext: b, Fields: a, Bytes: b}, {Ext: b, Fields: b, Bytes: a}} {
				d, e := New(l)
				if d == nil || e != api.OK {
					t.Fatalf("New(%v) = %v, %v", l, d, e)
				}
				if got, want := stateOf(d), (state{fields: "[]"}); got != want {
					t.Errorf("New(%v) has %+v", l, got)
				}
			}
		}
	}
}

// P9.1: limits that aren't right.
func TestNewRefuses(t *testing.T) {
	for _, n := range []int{-1, -2, -65536, 65537, 65538, 1 << 17, 1 << 32, 1<<32 + 1, -1 << 32, math.MaxInt, math.MinInt} {
		for _, l := range []api.Limits{{Ext: n}, {Fields: n}, {Bytes: n}, {Ext: n, Fields: n, Bytes: n}, {Ext: n, Fields: 5, Bytes: 50}, {Ext: 5, Fields: n, Bytes: 50}, {Ext: 5, Fields: 50, Bytes: n}} {
			if d, e := New(l); d != nil || e != api.ErrArg {
				t.Errorf("New(%v) = %v, %v, wanted nothing, ErrArg", l, d, e)
			}
		}
	}
}

// step is one piece, and what is told of it and behind it.
type step struct {
	piece, data string
	left        uint64
}

// P9.2 and P9.3: pieces that are all taken, with what is told behind each.
func TestPut(t *testing.T) {
	for i, steps := range [][]step{
		// the chapter's example
		{{"3", "", 0}, {"\r\nab", "ab", 1}, {"c", "c", 0}, {"\r\n0\r\n\r\n", "", 0}},
		// cut within a size, an extension, a line's end, data, a trailer
		{{"1", "", 0}, {"0\r", "", 0}, {"\n", "", 16}, {"0123456789", "0123456789", 6}, {"abcde", "abcde", 1}, {"f", "f", 0}, {"\r", "", 0}, {"\n", "", 0}, {"0", "", 0}, {"\r", "", 0}, {"\n", "", 0}, {"\r", "", 0}, {"\n", "", 0}},
		{{"2;", "", 0}, {"e;", "", 0}, {"4\r", "", 0}, {"\nx", "x", 1}, {"y\r", "y", 0}, {"\n0;", "", 0}, {"4\r\na", "", 0}, {":", "", 0}, {" 1", "", 0}, {"\r", "", 0}, {"\nb", "", 0}, {":\r\n", "", 0}, {"\r\n", "", 0}},
		// several chunks in one piece, and data that look like something else
		{{"1\r\na\r\n2\r\nbc\r\n3\r\nd", "abcd", 2}, {"ef\r\n5\r\n0\r\n\r\n\r\n4\r\n\r\n\r", "ef0\r\n\r\n\r\n\r", 1}, {"\n\r\n0\r\n\r\n", "\n", 0}},
		{{"", "", 0}, {"2\r\n", "", 2}, {"", "", 2}, {"\r", "\r", 1}, {"", "", 1}, {"\n\r", "\n", 0}, {"", "", 0}, {"\n000\r\n\r\n", "", 0}, {"", "", 0}},
		{{"A\r\n\x00\xff", "\x00\xff", 8}, {"\x80\x7f\n;:", "\x80\x7f\n;:", 3}, {"3fa", "3fa", 0}, {"\r\n0\r\n\r\n", "", 0}},
		{{"0\r\n\r\n", "", 0}},
	} {
		d, _ := New(wide)
		taken, given := 0, 0
		for j, s := range steps {
			data, n, e := d.Put([]byte(s.piece))
			if string(data) != s.data || n != len(s.piece) || e != api.OK {
				t.Errorf("steps %d, piece %q: %q, %d, %v, wanted %q", i, s.piece, data, n, e, s.data)
			}
			taken, given = taken+n, given+len(s.data)
			// The last piece of each is the body's end; empty ones follow it at most.
			done := j == len(steps)-1 || j == len(steps)-2 && steps[j+1].piece == ""
			if d.Left() != s.left || d.Taken() != int64(taken) || d.Given() != int64(given) || d.Err() != api.OK || d.Done() != done {
				t.Errorf("steps %d, behind %q: %+v, wanted left %d, taken %d, given %d, done %v", i, s.piece, stateOf(d), s.left, taken, given, done)
			}
		}
	}
}

// bodies tells whole bodies, with what they say.
func bodies() []struct {
	s, data string
	fields  []api.Field
} {
	return []struct {
		s, data string
		fields  []api.Field
	}{
		{"0\r\n\r\n", "", nil},
		{"0000000000000000;\r\n\r\n", "", nil},
		{"3\r\nabc\r\n0\r\n\r\n", "abc", nil},
		{"1\r\na\r\n1\r\nb\r\n1\r\nc\r\n000\r\n\r\n", "abc", nil},
		{"A\r\n0123456789\r\n0\r\n\r\n", "0123456789", nil},
		{"0000000000000011\r\n0123456789abcdefg\r\n0\r\n\r\n", "0123456789abcdefg", nil},
		{"5;\r\n0\r\n\r\n\r\n0;x\r\n\r\n", "0\r\n\r\n", nil},
		{"4\r\n\x00\x7f\xff\n\r\n0\r\n\r\n", "\x00\x7f\xff\n", nil},
		{"1;a=b;c=\"d e\"\r\nx\r\n0;\t \xff~!\r\n\r\n", "x", nil},
		{"0\r\na: 1\r\n\r\n", "", []api.Field{f("a", "1")}},
		{"0\r\na:1\r\nA:\t 2 3 \t\r\nb:\r\nb: \r\n\r\n", "", []api.Field{f("a", "1"), f("A", "2 3"), f("b", ""), f("b", "")}},
		{"2;q\r\nab\r\n0;r\r\nX-Sum: \xe4:,;\r\n!#$%&'*+-.^_`|~09azAZ: x\r\n\r\n", "ab", []api.Field{f("X-Sum", "\xe4:,;"), f("!#$%&'*+-.^_`|~09azAZ", "x")}},
	}
}

// P9.2 to P9.4: whole bodies, cut in two anywhere, with something behind them that isn't taken.
func TestBodies(t *testing.T) {
	for _, x := range bodies() {
		for _, behind := range []string{"", "x", "\r\n", "0\r\n\r\n", "3\r\nabc\r\n0\r\n\r\n", "a: b\r\n\r\n", "\x00", ";"} {
			s := x.s + behind
			for at := range len(s) + 1 {
				d, _ := New(wide)
				first, n, e := d.Put([]byte(s[:at]))
				second, m, more := d.Put([]byte(s[at:]))
				if string(first)+string(second) != x.data || n != min(at, len(x.s)) || n+m != len(x.s) || e != api.OK || more != api.OK {
					t.Errorf("%q, cut at %d: %q, %d, %v, and %q, %d, %v", s, at, first, n, e, second, m, more)
				}
				if !d.Done() || d.Err() != api.OK || !slices.Equal(d.Fields(), x.fields) || d.Taken() != int64(len(x.s)) || d.Given() != int64(len(x.data)) || d.Left() != 0 {
					t.Errorf("%q, cut at %d: %+v", s, at, stateOf(d))
				}
			}
		}
		checkCuts(t, wide, x.s+"more")
		checkCuts(t, narrow, x.s)
		checkCuts(t, noLimits, x.s)
	}
}

// P9.3: a body isn't done ahead of its last byte, and tells no field till then.
func TestBodiesThatAreNotWhole(t *testing.T) {
	for _, x := range bodies() {
		d, _ := New(wide)
		for n := range len(x.s) {
			if d.Done() || len(d.Fields()) != 0 || d.Err() != api.OK || d.Taken() != int64(n) {
				t.Errorf("%q: %+v", x.s[:n], stateOf(d))
			}
			d.Put([]byte(x.s[n : n+1]))
		}
		if !d.Done() || !slices.Equal(d.Fields(), x.fields) {
			t.Errorf("%q: %+v", x.s, stateOf(d))
		}
	}
}

// refused is a text whose last byte is refused, and the data ahead of it.
type refused struct {
	s    string
	l    api.Limits
	e    api.Errno
	data string
}

// at tells the place of the byte that is refused.
func (x refused) at() int { return len(x.s) - 1 }

// refusedTexts tells them for each place where a byte may be refused.
func refusedTexts() []refused {
	small := api.Limits{Ext: 4, Fields: 2, Bytes: 20}
	noughts := strings.Repeat("0", 15)
	var told []refused
	for _, group := range []struct {
		l     api.Limits
		e     api.Errno
		data  string
		texts []string
	}{
		// sizes and their ends
		{small, api.ErrForm, "", []string{"z", "\r", "\n", ";", " ", "\x00", "\xff", "3x", "3 ", "3\n", "3:", "0\x00", "3\rx", "3\r\r", "0\r;", "0\r0"}},
		{small, api.ErrForm, "", []string{"400000000000000g", noughts + "0g", "3fffffffffffffff\n"}},
		{small, api.ErrBig, "", []string{noughts + "00", noughts + "0f", "3fffffffffffffff0", "4000000000000000", "ffffffffffffffff", "FFFFFFFFFFFFFFFF"}},
		{noLimits, api.ErrForm, "", []string{";", "3x", "3\rx", noughts + "0g"}},
		{noLimits, api.ErrBig, "", []string{noughts + "00", "4000000000000000"}},
		// extensions
		{small, api.ErrForm, "", []string{"3;\x00", "3;a\n", "3;\x7f", "3;abc\rx", "3;\r\r", "3;123\x00"}},
		{small, api.ErrLimit, "", []string{"3;1234", "0;123;", "3;123 "}},
		{small, api.ErrLimit, "x", []string{"1;123\r\nx\r\n0;1234"}},
		{noLimits, api.ErrLimit, "", []string{"3;", "0;"}},
		{api.Limits{Ext: 1}, api.ErrLimit, "", []string{"3;;", "0000000000000000;x"}},
		{api.Limits{Ext: 1}, api.ErrForm, "", []string{"3;\x00", "3;\rx"}},
		// data's ends, and what is behind a chunk
		{small, api.ErrForm, "abc", []string{"3\r\nabcx", "3\r\nabc\n", "3\r\nabc0", "3\r\nabc\rx", "3\r\nabc\r\r", "3\r\nabc\r\n\r", "3\r\nabc\r\nx", "3\r\nabc\r\n;"}},
		{small, api.ErrForm, "\r", []string{"1\r\n\r\n", "1\r\n\r\r\r", "1\r\n\r\r\n\r"}},
		{small, api.ErrForm, "abcd", []string{"1\r\na\r\n2\r\nbc\r\n1\r\nd\re"}},
		{small, api.ErrBig, "a", []string{"1\r\na\r\n" + noughts + "00", "1\r\na\r\n4000000000000000"}},
		// sections
		{small, api.ErrForm, "", []string{"0\r\n ", "0\r\n:", "0\r\n\n", "0\r\n\x80", "0\r\n\rx", "0\r\n\r\r", "0\r\na\r", "0\r\na ", "0\r\na\n", "0\r\na\x80"}},
		{small, api.ErrForm, "", []string{"0\r\na:\n", "0\r\na: \x00", "0\r\na:\x7f", "0\r\na: 1\rx", "0\r\na: 1\r\r", "0\r\na: 1\r\n ", "0\r\na: 1\r\n\r0", "0\r\na:\r\nb:\r\n:"}},
		{small, api.ErrForm, "a", []string{"1\r\na\r\n0\r\n("}},
		// sections at their limits
		{small, api.ErrLimit, "", []string{"0\r\na:\r\nb:\r\nc", "0\r\na:12345678901234567\r\n", "0\r\na:123456789012345678\r", "0\r\na:123456789012345678x"}},
		{noLimits, api.ErrLimit, "", []string{"0\r\na"}},
		{noLimits, api.ErrForm, "", []string{"0\r\n:", "0\r\n\rx"}},
		{api.Limits{Fields: 1}, api.ErrLimit, "", []string{"0\r\na"}},
		{api.Limits{Bytes: 1}, api.ErrLimit, "", []string{"0\r\na"}},
		{api.Limits{Fields: 1, Bytes: 9}, api.ErrLimit, "", []string{"0\r\na:\r\nb"}},
		{api.Limits{Fields: 1, Bytes: 9}, api.ErrForm, "", []string{"0\r\na:\r\n:"}},
		{api.Limits{Fields: 2, Bytes: 4}, api.ErrLimit, "ab", []string{"2\r\nab\r\n0\r\na:\r\nb"}},
		{api.Limits{Fields: 1, Bytes: 1}, api.ErrLimit, "", []string{"0\r\nab", "0\r\na:"}},
		{api.Limits{Fields: 1, Bytes: 2}, api.ErrLimit, "", []string{"0\r\nabc", "0\r\nab:", "0\r\na: ", "0\r\na:\r"}},
		{api.Limits{Fields: 1, Bytes: 2}, api.ErrForm, "", []string{"0\r\nab\r", "0\r\na:\n", "0\r\na:\x00"}},
		{api.Limits{Fields: 1, Bytes: 3}, api.ErrLimit, "", []string{"0\r\na:\r\n"}},
		{api.Limits{Fields: 1, Bytes: 3}, api.ErrForm, "", []string{"0\r\na:\r\r"}},
	} {
		for _, s := range group.texts {
			told = append(told, refused{s, group.l, group.e, group.data})
		}
	}
	return told
}

// P9.2 and P9.3: the place and the error of a byte that is refused, cut in two anywhere, whatever follows it.
func TestRefusedBytes(t *testing.T) {
	for _, x := range refusedTexts() {
		for _, behind := range []string{"", "x", "\r\n", "\r\n\r\n", "0\r\n\r\n", "00000000000000000"} {
			s := x.s + behind
			for cut := range len(s) + 1 {
				d, _ := New(x.l)
				first, n, e := d.Put([]byte(s[:cut]))
				second, m, more := d.Put([]byte(s[cut:]))
				early := api.OK
				if cut > x.at() {
					early = x.e
				}
				if string(first)+string(second) != x.data || n != min(cut, x.at()) || n+m != x.at() || e != early || more != x.e {
					t.Errorf("%v, %q, cut at %d: %q, %d, %v, and %q, %d, %v, wanted %q, %d, %v", x.l, s, cut, first, n, e, second, m, more, x.data, x.at(), x.e)
				}
				if want := (state{err: x.e, fields: "[]", taken: int64(x.at()), given: int64(len(x.data))}); stateOf(d) != want {
					t.Errorf("%v, %q, cut at %d: %+v, wanted %+v", x.l, s, cut, stateOf(d), want)
				}
			}
		}
		checkCuts(t, x.l, x.s)
	}
}

// P9.2: a byte that isn't handed over isn't asked for, so that what goes on up to it hasn't failed.
func TestNothingFailsAheadOfTheByte(t *testing.T) {
	for _, x := range refusedTexts() {
		d, _ := New(x.l)
		if _, n, e := d.Put([]byte(x.s[:x.at()])); n != x.at() || e != api.OK || d.Err() != api.OK || d.Done() {
			t.Errorf("%v, %q: %d, %v, %+v", x.l, x.s[:x.at()], n, e, stateOf(d))
		}
	}
}

// P9.2: a decoder that has failed, or is done, takes nothing any more, and stays as it is.
func TestHandedMore(t *testing.T) {
	more := []string{"", "0", "\r\n", "\r\n\r\n", "0\r\n\r\n", "3\r\nabc\r\n0\r\na: b\r\n\r\n", "a: b\r\n\r\n", "x", "\x00", "00000000000000000", ";;;;;;;;;"}
	stays := func(d *Decoder, s string) {
		t.Helper()
		before := stateOf(d)
		for range 2 {
			for _, piece := range more {
				if data, n, e := d.Put([]byte(piece)); len(data) != 0 || n != 0 || e != before.err {
					t.Errorf("behind %q, %q: %q, %d, %v", s, piece, data, n, e)
				}
				if stateOf(d) != before {
					t.Errorf("behind %q and %q: %+v, wanted %+v", s, piece, stateOf(d), before)
				}
			}
			if data, n, e := d.Put(nil); len(data) != 0 || n != 0 || e != before.err || stateOf(d) != before {
				t.Errorf("behind %q, nil: %q, %d, %v, %+v", s, data, n, e, stateOf(d))
			}
		}
	}
	for _, x := range bodies() {
		d, _ := New(wide)
		d.Put([]byte(x.s))
		stays(d, x.s)
	}
	for _, x := range refusedTexts() {
		d, _ := New(x.l)
		d.Put([]byte(x.s))
		stays(d, x.s)
	}
}

// P9.2 and P9.3: pieces without bytes change nothing, wherever they come.
func TestEmptyPieces(t *testing.T) {
	const s = "2;e\r\nab\r\n0\r\nc: d\r\nE:\r\n\r\n"
	d, _ := New(wide)
	for i := range len(s) {
		before := stateOf(d)
		for _, empty := range [][]byte{nil, {}, make([]byte, 0, 4), []byte("0\r\n")[:0]} {
			if data, n, e := d.Put(empty); len(data) != 0 || n != 0 || e != api.OK || stateOf(d) != before {
				t.Errorf("behind %q: %q, %d, %v, %+v, wanted %+v", s[:i], data, n, e, stateOf(d), before)
			}
		}
		d.Put([]byte(s[i : i+1]))
	}
	if want := (state{done: true, fields: `[{"c" "d"} {"E" ""}]`, taken: int64(len(s)), given: 2}); stateOf(d) != want {
		t.Errorf("%+v, wanted %+v", stateOf(d), want)
	}
}

// P9.2 and P9.3: all pieces of one byte.
func TestPiecesOfOneByte(t *testing.T) {
	for _, x := range bodies() {
		d, _ := New(wide)
		told := ""
		for i := range len(x.s) {
			data, n, e := d.Put([]byte{x.s[i]})
			if n != 1 || e != api.OK || len(data) > 1 || int64(len(told)+len(data)) != d.Given() {
				t.Errorf("%q, byte %d: %q, %d, %v", x.s, i, data, n, e)
			}
			told += string(data)
		}
		if told != x.data {
			t.Errorf("%q: %q, wanted %q", x.s, told, x.data)
		}
		checkEnd(t, d, told, x.s)
	}
}

// P9.3: what is left of the greatest sizes.
func TestLeft(t *testing.T) {
	for _, x := range []struct {
		s    string
		left uint64
	}{
		{"", 0}, {"3", 0}, {"3\r", 0}, {"3;", 0}, {"3;x\r", 0},
		{"3\r\n", 3}, {"3;x\r\n", 3}, {"3\r\na", 2}, {"3\r\nab", 1}, {"3\r\nabc", 0}, {"3\r\nabc\r", 0}, {"3\r\nabc\r\n", 0},
		{"3\r\nabc\r\n5", 0}, {"3\r\nabc\r\n5\r", 0}, {"3\r\nabc\r\n5\r\n", 5}, {"3\r\nabc\r\n5\r\nd", 4},
		{"0\r\n", 0}, {"0\r\na", 0}, {"0\r\n\r", 0}, {"0\r\n\r\n", 0}, {"3\r\nabc\r\n0\r\n\r\n", 0},
		{"3fffffffffffffff", 0}, {"3fffffffffffffff\r\n", api.MaxSize}, {"3FFFFFFFFFFFFFFF\r\nab", api.MaxSize - 2},
		{"100000000\r\n", 1 << 32}, {"0000000100000000\r\n0", 1<<32 - 1}, {"80000000\r\n01", 1<<31 - 2}, {"ffffffff\r\n", 1<<32 - 1}, {"fffffffffffffff\r\n", 1<<60 - 1}, {"1000000000000000\r\n\r\n", 1<<60 - 2},
		{"0a\r\n012345678", 1}, {"0010\r\n\r\n", 14},
		// behind an error
		{"3x", 0}, {"3\r\nabcd", 0}, {"3\r\nabc\rd", 0}, {"3\rx", 0}, {"3fffffffffffffff0", 0}, {"4000000000000000", 0}, {"3;\x00", 0}, {"0\r\n ", 0},
	} {
		for cut := range len(x.s) + 1 {
			d, _ := New(wide)
			d.Put([]byte(x.s[:cut]))
			d.Put([]byte(x.s[cut:]))
			if d.Left() != x.left {
				t.Errorf("%q, cut at %d: left %d, wanted %d", x.s, cut, d.Left(), x.left)
			}
		}
		checkCuts(t, wide, x.s)
	}
}

// P9.2: sizes around every power of two, with noughts ahead.
func TestSizesAtTheEdges(t *testing.T) {
	for shift := range 64 {
		for by := uint64(0); by < 5; by++ {
			small := strconv.FormatUint(1<<shift-2+by, 16)
			for _, digits := range []string{small, strings.ToUpper(small), strings.Repeat("0", 16-len(small)) + small, strings.Repeat("0", 17-len(small)) + small} {
				check(t, noLimits, digits, "\r", "\nab")
				check(t, noLimits, "1\r\nx\r\n"+digits[:1], digits[1:]+"\r\n")
			}
		}
	}
}

// P9.1 and P9.2: limits of MaxLimit, met and passed by one byte, in pieces of some sizes.
func TestGreatestLimits(t *testing.T) {
	ext := ";" + strings.Repeat("x", 65535)
	value := "a:" + strings.Repeat("v", 65532) + "\r\n" // 65536 bytes
	lines := strings.Repeat("a:\r\n", 16384)            // 65536 bytes
	for _, x := range []struct {
		s      string
		l      api.Limits
		fields int
		at     int64
		e      api.Errno
		done   bool
	}{
		{"0" + ext + "\r\n\r\n", wide, 0, 65541, api.OK, true},
		{"0" + ext, wide, 0, 65537, api.OK, false},
		{"0" + ext + "x\r\n\r\n", wide, 0, 65537, api.ErrLimit, false},
		{"0" + ext + "\x00", wide, 0, 65537, api.ErrForm, false},
		{"0\r\n" + value + "\r\n", wide, 1, 65541, api.OK, true},
		{"0\r\n" + value + "\r", wide, 0, 65540, api.OK, false},
		{"0\r\n" + value + "\rx", wide, 0, 65540, api.ErrForm, false},
		{"0\r\n" + value + "b", wide, 0, 65539, api.ErrLimit, false},
		{"0\r\n" + value + "\n", wide, 0, 65539, api.ErrForm, false},
		{"0\r\na" + value + "\r\n", wide, 0, 65539, api.ErrLimit, false},
		{"0\r\naaa" + value + "\r\n", wide, 0, 65539, api.ErrLimit, false},
		{"0\r\n" + lines + "\r\n", wide, 16384, 65541, api.OK, true},
		{"0\r\n" + lines + "a:\r\n\r\n", wide, 0, 65539, api.ErrLimit, false},
		{"0\r\n" + lines + "\r\n", api.Limits{Fields: 16383, Bytes: 65536}, 0, 65535, api.ErrLimit, false},
		{"0\r\n" + lines + "\r\n", api.Limits{Fields: 16384, Bytes: 65535}, 0, 65538, api.ErrLimit, false},
		{"0" + ext + "\r\n" + lines + "\r\n" + lines, wide, 16384, 131077, api.OK, true},
	} {
		for _, size := range []int{1, 1000, 1 << 20} {
			d, _ := New(x.l)
			for piece := range slices.Chunk([]byte(x.s), size) {
				d.Put(piece)
			}
			if len(d.Fields()) != x.fields || d.Taken() != x.at || d.Err() != x.e || d.Done() != x.done {
				t.Errorf("%d bytes from %q on, by %d: %d fields, taken %d, %v, %v, wanted %d, %d, %v, %v", len(x.s), x.s[:10], size, len(d.Fields()), d.Taken(), d.Err(), d.Done(), x.fields, x.at, x.e, x.done)
			}
			checkEnd(t, d, "", x.s)
		}
	}
}

// P9.2 to P9.4: one body under all small limits, cut in two anywhere.
func TestEveryLimit(t *testing.T) {
	const s = "1;ab\r\nx\r\n0;abc\r\na: \r\nbc:d\r\n\r\ny"
	for ext := range 6 {
		for fields := range 4 {
			for n := range 15 {
				l := api.Limits{Ext: ext, Fields: fields, Bytes: n}
				check(t, l, s)
				check(t, l, single(s)...)
				check(t, l, s[:len(s)/2], s[len(s)/2:])
			}
		}
	}
}

// P9.2 to P9.4: every byte, in place of each byte of a body and between each two, cut ahead of it and behind it.
func TestEachByteAtEachPlace(t *testing.T) {
	const s = "2;e\r\nab\r\n0\r\nc: d\r\nE:\r\n\r\nz"
	for i := range 256 {
		c := string([]byte{byte(i)})
		for at := range len(s) + 1 {
			check(t, narrow, s[:at], c, s[at:])
			if at < len(s) {
				check(t, narrow, s[:at]+c+s[at+1:])
			}
		}
	}
}

// everyText tells all texts of at most that many of the bytes.
func everyText(bytes string, most int) []string {
	all := []string{""}
	for begin := 0; most > 0; most-- {
		end := len(all)
		for _, s := range all[begin:end] {
			for i := range len(bytes) {
				all = append(all, s+bytes[i:i+1])
			}
		}
		begin = end
	}
	return all
}

// P9.2 to P9.4: all short texts, at the beginning and behind some beginnings.
func TestEveryShortText(t *testing.T) {
	some := api.Limits{Ext: 2, Fields: 1, Bytes: 5}
	for _, s := range everyText("01;a\r\n", 4) {
		check(t, some, single(s)...)
		check(t, some, s)
	}
	for _, s := range everyText("0;a:\r\n\x00", 3) {
		for _, ahead := range []string{"1\r\n", "1;\r\nx\r", "1\r\nx\r\n0", "0\r\n", "0\r\na:", "0\r\na:\r", "0\r\na:b\r\n", "0\r\n\r", "3fffffffffffff", "000000000000000"} {
			check(t, some, ahead, s)
		}
	}
}

// anyBody makes a whole body of parts that are there.
func anyBody(r *rand.Rand) string {
	some := func(most int, parts ...string) (s string) {
		for range r.Intn(most + 1) {
			s += parts[r.Intn(len(parts))]
		}
		return s
	}
	chunks := some(4, "1\r\nx\r\n", "2;a\r\n\r\n\r\n", "00A;=\" \xff\r\n0;:\r\n\r\n\x00\xffa\r\n", "012\r\n0123456789abcdefgh\r\n")
	last := "0" + some(2, "0") + some(1, ";", ";a", ";\t=b")
	return chunks + last + "\r\n" + some(4, "a:\r\n", "Z0!: a b \r\n", "-:\t:;\x80\r\n") + "\r\n"
}

// anyCut cuts s into pieces, empty ones among them.
func anyCut(r *rand.Rand, s string) []string {
	var pieces []string
	for most := 1 + r.Intn(12); s != ""; {
		n := min(r.Intn(most+1), len(s))
		pieces = append(pieces, s[:n])
		s = s[n:]
	}
	return pieces
}

// P9.2 to P9.4: any body, under any limits, in any pieces, with a byte changed, left out, or put in.
func TestAnyBody(t *testing.T) {
	r := rand.New(rand.NewSource(9))
	for range 400 {
		s := anyBody(r)
		l := api.Limits{Ext: r.Intn(7), Fields: r.Intn(5), Bytes: r.Intn(40)}
		at, c := r.Intn(len(s)), string([]byte{"0aF;: \r\n\x00\xff"[r.Intn(10)]})
		if _, at, e := body.Scan([]byte(s), wide); at != len(s) || e != api.OK {
			t.Errorf("%q is no body: %d, %v", s, at, e)
		}
		check(t, wide, anyCut(r, s)...)
		check(t, l, anyCut(r, s)...)
		check(t, l, anyCut(r, s[:at]+c+s[at+1:])...)
		check(t, wide, anyCut(r, s[:at]+c+s[at:])...)
		check(t, wide, anyCut(r, s[:at]+s[at+1:])...)
		check(t, wide, anyCut(r, s+anyBody(r))...)
	}
}

// P9.4: long data, and many chunks, in pieces of many sizes.
func TestLongBodies(t *testing.T) {
	data := strings.Repeat("0\r\n\r\n\x00abc", 1<<15)
	long := strconv.FormatInt(int64(len(data)), 16) + "\r\n" + data + "\r\n"
	many := strings.Repeat("1\r\nx\r\n", 1<<15)
	const tail = "0\r\na: b\r\n\r\n"
	for _, s := range []string{long + many + long + tail + "more", long + long[:len(long)-1], long + many + "x" + long, many + long + many[:len(many)-2] + "x"} {
		for _, size := range []int{1, 2, 3, 5, 1000, 4096, 65536, 1 << 20} {
			d, _ := New(narrow)
			var told bytes.Buffer
			for piece := range slices.Chunk([]byte(s), size) {
				b, _, _ := d.Put(piece)
				told.Write(b)
			}
			checkEnd(t, d, told.String(), s)
		}
	}
}

// P9.2 with R4: what is handed in stays as it is, its spare room too, and what is written into it later makes no difference.
func TestWhatIsHandedInIsNotKept(t *testing.T) {
	const s = "5;ex\r\nabcde\r\n2\r\nfg\r\n0\r\nName: value \r\nb:\r\n\r\n"
	for size := 1; size <= len(s); size++ {
		d, _ := New(wide)
		var told []byte
		room := make([]byte, size+8)
		for at := 0; at < len(s); at += size {
			piece := s[at:min(at+size, len(s))]
			n := copy(room, piece)
			copy(room[n:], "spare room")
			before := string(room)
			data, _, _ := d.Put(room[:n])
			if string(room) != before {
				t.Errorf("%q is %q behind the call", before, room)
			}
			overwrite(room)
			told = append(told, data...)
		}
		if string(told) != "abcdefg" || !slices.Equal(d.Fields(), []api.Field{f("Name", "value"), f("b", "")}) {
			t.Errorf("by %d: %q, %q", size, told, d.Fields())
		}
	}
}

// P9.2 and P9.3 with R4: what is written into an answer, its spare room too, is seen nowhere else.
func TestAnswersAreNewMemory(t *testing.T) {
	d, _ := New(wide)
	piece := []byte("3\r\nabc\r\n5\r\nde")
	first, _, _ := d.Put(piece)
	overwrite(first)
	if string(piece) != "3\r\nabc\r\n5\r\nde" {
		t.Errorf("the piece is now %q", piece)
	}
	run := []byte("fg")
	second, _, _ := d.Put(run)
	third, _, _ := d.Put([]byte("h\r\n0\r\na: 1\r\nb: 2\r\nc: 3\r\n\r\n"))
	overwrite(second)
	if string(run) != "fg" || string(third) != "h" {
		t.Errorf("%q and %q", run, third)
	}
	want := []api.Field{f("a", "1"), f("b", "2"), f("c", "3")}
	for range 3 {
		fields := d.Fields()
		if !slices.Equal(fields, want) {
			t.Fatalf("Fields() = %q", fields)
		}
		fields = fields[:cap(fields)]
		for i := range fields {
			fields[i] = f("over", "written")
		}
	}
}

func overwrite(b []byte) {
	b = b[:cap(b)]
	for i := range b {
		b[i] = '!'
	}
}

// P9.3 with R5: asking changes nothing, and what other decoders are handed makes no difference.
func TestDecodersAreApart(t *testing.T) {
	texts := []string{"3\r\nabc\r\n0\r\na: b\r\n\r\n", "3\r\nabx\r\n", "3\r\nabc\r\nx", "1\r\nx\r\n0;xxxxx", "0\r\na:\r\nb:\r\nc:", "4000000000000000", "5\r\nabc"}
	decoders, models := make([]*Decoder, len(texts)), make([]*model, len(texts))
	for i := range texts {
		decoders[i], _ = New(narrow)
		models[i] = &model{limits: narrow}
	}
	for at := range 30 {
		for i, s := range texts {
			piece := []byte(s[min(at, len(s)):min(at+1, len(s))])
			data, n, e := decoders[i].Put(piece)
			wantData, wantN, wantE := models[i].put(piece)
			if string(data) != wantData || n != wantN || e != wantE {
				t.Errorf("%q, byte %d: %q, %d, %v, wanted %q, %d, %v", s, at, data, n, e, wantData, wantN, wantE)
			}
			for range 2 {
				if got, want := stateOf(decoders[i]), models[i].state(); got != want {
					t.Errorf("%q, behind byte %d: %+v, wanted %+v", s, at, got, want)
				}
			}
		}
	}
}

// R1: several goroutines at once, with a decoder each.
func TestSeveralGoroutines(t *testing.T) {
	texts := []string{"3\r\nabc\r\n0\r\na: b\r\n\r\n", "3\r\nab", "3\r\nabc\r\nx", "1\r\nx\r\n0;xxxxx", "0\r\n\r\n"}
	var wait sync.WaitGroup
	for i := range 8 {
		wait.Go(func() {
			for n := range 50 {
				check(t, narrow, single(texts[(i+n)%len(texts)])...)
			}
		})
	}
	wait.Wait()
}
