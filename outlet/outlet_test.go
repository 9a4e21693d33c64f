package outlet

import (
	"fmt"
	"math"
	"math/rand"
	"slices"
	"strconv"
	"strings"
	"sync"
	"testing"

	"catchpit/api"
	"catchpit/enchunk"
)

var (
	none     = api.Framing{Kind: api.Nothing}
	inChunks = api.Framing{Kind: api.Chunked}
	toClose  = api.Framing{Kind: api.UntilClose}
)

func fixedOf(size uint64) api.Framing { return api.Framing{Kind: api.Fixed, Size: size} }

func f(name, value string) api.Field { return api.Field{Name: name, Value: value} }

// forbidden tells chapter 13's names, as small letters.
func forbidden() []string {
	return strings.Fields("authorization cache-control connection content-encoding content-length content-range content-type cookie expect host if-match if-modified-since if-none-match if-range if-unmodified-since keep-alive max-forwards pragma proxy-authenticate proxy-authorization proxy-connection range set-cookie te trailer transfer-encoding upgrade www-authenticate")
}

const tokenBytes = "abcdefghijklmnopqrstuvwxyzABCDEFGHIJKLMNOPQRSTUVWXYZ0123456789!#$%&'*+-.^_`|~"

// wantToken, wantText and wantRight ask what chapters 2 and 5 say, byte by byte.
func wantToken(s string) bool {
	return s != "" && strings.Trim(s, tokenBytes) == ""
}

func wantText(s string) bool {
	for _, c := range []byte(s) {
		if c < 0x20 && c != 0x09 || c == 0x7f {
			return false
		}
	}
	return true
}

func wantRight(f api.Field) bool {
	return wantToken(f.Name) && wantText(f.Value) && f.Value == strings.Trim(f.Value, " \t")
}

// wantWhole asks the words of P14.3.
func wantWhole(framing api.Framing, s string) bool {
	switch framing {
	case none:
		return s == ""
	case inChunks:
		return wantBody(s)
	case toClose:
		return true
	}
	return framing.Kind == 1 && framing.Size <= 0x3fffffffffffffff && framing.Size == uint64(len(s))
}

// wantBody reads a text as chapter 8 writes a chunked body, to its last byte, within the greatest limits.
func wantBody(s string) bool {
	for {
		line, behind, ended := strings.Cut(s, "\x0d\x0a")
		digits, ext, extended := strings.Cut(line, ";")
		n, err := strconv.ParseUint(digits, 16, 62)
		if !ended || digits == "" || len(digits) > 16 || strings.Trim(digits, "0123456789abcdefABCDEF") != "" || err != nil || !wantText(ext) || extended && len(ext)+1 > 65536 {
			return false
		}
		if n == 0 {
			return wantSection(behind)
		}
		if uint64(len(behind)) < n || !strings.HasPrefix(behind[n:], "\x0d\x0a") {
			return false
		}
		s = behind[n+2:]
	}
}

// wantSection reads a text as fields' lines and an empty one, and no more.
func wantSection(s string) bool {
	lines := strings.SplitAfter(s, "\x0d\x0a")
	at := slices.Index(lines, "\x0d\x0a")
	if at < 0 || at > 65536 || strings.Join(lines[at:], "") != "\x0d\x0a" || len(s)-2 > 65536 {
		return false
	}
	for _, line := range lines[:at] {
		name, value, colon := strings.Cut(strings.TrimSuffix(line, "\x0d\x0a"), ":")
		if !colon || !wantToken(name) || !wantText(value) {
			return false
		}
	}
	return true
}

// state is all that an outlet tells of itself.
type state struct {
	shut    bool
	kept    int
	given   int64
	written int64
}

func stateOf(o *Outlet) state { return state{o.Shut(), o.Kept(), o.Given(), o.Written()} }

// model is what the chapter's words say of an outlet: all the data that it was given, all that was to be written, and whether it is shut.
type model struct {
	framing       api.Framing
	data, written string
	shut, ended   bool
}

// full tells whether a Fixed body's size is given in full.
func (m *model) full() bool {
	return m.framing.Kind == api.Fixed && uint64(len(m.data)) == m.framing.Size
}

func (m *model) kept() int {
	if m.full() && !m.shut && m.data != "" {
		return 1
	}
	return 0
}

func (m *model) state() state {
	return state{m.shut, m.kept(), int64(len(m.data)), int64(len(m.written))}
}

// write tells what is to be written behind that which was, for it to be all.
func (m *model) write(all string) (string, api.Errno) {
	more := all[len(m.written):]
	m.written = all
	return more, api.OK
}

func (m *model) put(b string) (string, api.Errno) {
	switch {
	case m.shut:
		return "", api.ErrShut
	case m.framing.Kind == api.Fixed && uint64(len(m.data)+len(b)) > m.framing.Size:
		return "", api.ErrFull
	}
	m.data += b
	switch {
	case m.framing.Kind != api.Chunked:
		return m.write(m.data[:len(m.data)-m.kept()])
	case b == "":
		return "", api.OK
	}
	return m.write(m.written + fmt.Sprintf("%x\x0d\x0a%s\x0d\x0a", len(b), b))
}

func (m *model) end(l []api.Field) (string, api.Errno) {
	switch {
	case m.shut:
		return "", api.ErrShut
	case m.framing.Kind == api.Fixed && !m.full():
		return "", api.ErrMore
	}
	section := ""
	for _, f := range l {
		if slices.Contains(forbidden(), strings.ToLower(f.Name)) {
			continue
		}
		if !wantRight(f) {
			return "", api.ErrArg
		}
		section += strings.TrimSuffix(f.Name+": "+f.Value, " ") + "\x0d\x0a"
	}
	m.shut, m.ended = true, true
	if m.framing.Kind == api.Chunked {
		return m.write(m.written + "0\x0d\x0a" + section + "\x0d\x0a")
	}
	return m.write(m.data)
}

func (m *model) abort() api.Errno {
	if m.shut {
		return api.ErrShut
	}
	m.shut = true
	return api.OK
}

// call is one call of an outlet.
type call struct {
	name   string
	piece  string
	fields []api.Field
}

func (c call) String() string {
	switch c.name {
	case "Put":
		return fmt.Sprintf("Put(%.40q)", c.piece)
	case "End":
		return fmt.Sprintf("End(%.200q)", c.fields)
	}
	return c.name + "()"
}

func put(piece string) call { return call{name: "Put", piece: piece} }

func end(l ...api.Field) call { return call{name: "End", fields: l} }

var aborting = call{name: "Abort"}

func puts(pieces ...string) []call {
	calls := make([]call, len(pieces))
	for i, piece := range pieces {
		calls[i] = put(piece)
	}
	return calls
}

// single tells the pieces of one byte.
func single(s string) []string {
	pieces := make([]string, len(s))
	for i := range len(s) {
		pieces[i] = s[i : i+1]
	}
	return pieces
}

// of makes the call of an outlet.
func (c call) of(o *Outlet) ([]byte, api.Errno) {
	switch c.name {
	case "Put":
		return o.Put([]byte(c.piece))
	case "End":
		return o.End(c.fields...)
	}
	return nil, o.Abort()
}

// ofModel makes the call of a model.
func (c call) ofModel(m *model) (string, api.Errno) {
	switch c.name {
	case "Put":
		return m.put(c.piece)
	case "End":
		return m.end(c.fields)
	}
	return "", m.abort()
}

// make makes the call of both, and holds what they answer, and what they tell behind it, against each other.
func (c call) make(t *testing.T, o *Outlet, m *model) {
	t.Helper()
	behind := fmt.Sprintf("%v, behind %.40q", m.framing, m.data)
	got, e := c.of(o)
	want, wantE := c.ofModel(m)
	if string(got) != want || e != wantE || e != api.OK && got != nil {
		t.Errorf("%s: %v = %.40q, %v, wanted %.40q, %v", behind, c, got, e, want, wantE)
	}
	if got, want := stateOf(o), m.state(); got != want {
		t.Errorf("%s, %v: %+v, wanted %+v", behind, c, got, want)
	}
}

// both makes a new outlet, and the model of it.
func both(t *testing.T, framing api.Framing) (*Outlet, *model) {
	t.Helper()
	o, e := New(framing)
	if o == nil || e != api.OK {
		t.Fatalf("New(%v) = %v, %v", framing, o, e)
	}
	if got := stateOf(o); got != (state{}) {
		t.Errorf("New(%v) has %+v", framing, got)
	}
	return o, &model{framing: framing}
}

// check makes the calls of a new outlet, and asks behind each of them whether what was written is whole.
func check(t *testing.T, framing api.Framing, calls ...call) *model {
	t.Helper()
	o, m := both(t, framing)
	for _, c := range calls {
		c.make(t, o, m)
		checkTrust(t, m)
	}
	return m
}

// checkTrust asks of what was written whether it is whole, which it has to be just behind the end.
func checkTrust(t *testing.T, m *model) {
	t.Helper()
	want := m.ended || m.framing == toClose || m.framing == fixedOf(0)
	if Whole(m.framing, []byte(m.written)) != want || wantWhole(m.framing, m.written) != want {
		t.Errorf("%v: %.40q, ended %v: whole %v, wanted %v", m.framing, m.written, m.ended, !want, want)
	}
}

// sizes are sizes about all edges, those of other widths of numbers among them.
func sizes() []uint64 {
	const most = api.MaxSize
	return []uint64{0, 1, 2, 3, 255, 256, 65535, 65536, 1<<31 - 1, 1 << 31, 1<<32 - 1, 1 << 32, 1<<53 + 1, most - 1, most, most + 1, most + 2, 1<<63 - 1, 1 << 63, math.MaxUint64 - 1, math.MaxUint64}
}

// kinds are all kinds, those below the first and those behind the last.
func kinds() []int {
	return []int{0, 1, 2, 3, 4, 5, 6, 7, 255, 256, 257, 258, 259, 1<<16 + 1, 1 << 32, 1<<32 + 1, 1<<32 + 2, 1<<32 + 3, math.MaxInt, -1, -2, -3, math.MinInt, math.MinInt + 1}
}

// P14.1: each kind with each size.
func TestNew(t *testing.T) {
	for _, kind := range kinds() {
		for _, size := range sizes() {
			framing := api.Framing{Kind: kind, Size: size}
			if kind == 1 && size <= 0x3fffffffffffffff || (kind == 2 || kind == 3) && size == 0 {
				o, m := both(t, framing)
				put("").make(t, o, m)
				continue
			}
			if o, e := New(framing); o != nil || e != api.ErrArg {
				t.Errorf("New(%v) = %v, %v, wanted nothing, ErrArg", framing, o, e)
			}
		}
	}
}

// step is one call, with what it answers, and what is told behind it.
type step struct {
	call
	want string
	e    api.Errno
	state
}

// P14.1 and P14.2: stories written out.
func TestStories(t *testing.T) {
	sum, host, wrong := f("X-Sum", "1"), f("host", "a"), f("X-Sum", "1\r")
	for _, x := range []struct {
		framing api.Framing
		steps   []step
	}{
		// the chapter's example
		{fixedOf(3), []step{
			{put("ab"), "ab", api.OK, state{given: 2, written: 2}},
			{put("c"), "", api.OK, state{kept: 1, given: 3, written: 2}},
			{end(), "c", api.OK, state{shut: true, given: 3, written: 3}},
			{put("d"), "", api.ErrShut, state{shut: true, given: 3, written: 3}},
			{end(), "", api.ErrShut, state{shut: true, given: 3, written: 3}},
			{aborting, "", api.ErrShut, state{shut: true, given: 3, written: 3}},
			{put(""), "", api.ErrShut, state{shut: true, given: 3, written: 3}},
			{end(wrong), "", api.ErrShut, state{shut: true, given: 3, written: 3}},
			{aborting, "", api.ErrShut, state{shut: true, given: 3, written: 3}},
		}},
		// in one piece, no bytes behind it, more than is left, an end that is refused
		{fixedOf(3), []step{
			{put("abcd"), "", api.ErrFull, state{}},
			{put("abc"), "ab", api.OK, state{kept: 1, given: 3, written: 2}},
			{put(""), "", api.OK, state{kept: 1, given: 3, written: 2}},
			{put("d"), "", api.ErrFull, state{kept: 1, given: 3, written: 2}},
			{put(""), "", api.OK, state{kept: 1, given: 3, written: 2}},
			{end(wrong), "", api.ErrArg, state{kept: 1, given: 3, written: 2}},
			{end(host, wrong), "", api.ErrArg, state{kept: 1, given: 3, written: 2}},
			{put(""), "", api.OK, state{kept: 1, given: 3, written: 2}},
			{end(sum, host), "c", api.OK, state{shut: true, given: 3, written: 3}},
		}},
		// byte by byte, an end ahead of the size
		{fixedOf(3), []step{
			{put(""), "", api.OK, state{}},
			{end(), "", api.ErrMore, state{}},
			{put("a"), "a", api.OK, state{given: 1, written: 1}},
			{put("bcd"), "", api.ErrFull, state{given: 1, written: 1}},
			{put("b"), "b", api.OK, state{given: 2, written: 2}},
			{end(sum), "", api.ErrMore, state{given: 2, written: 2}},
			{end(wrong), "", api.ErrMore, state{given: 2, written: 2}},
			{put(""), "", api.OK, state{given: 2, written: 2}},
			{put("c"), "", api.OK, state{kept: 1, given: 3, written: 2}},
			{aborting, "", api.OK, state{shut: true, given: 3, written: 2}},
			{aborting, "", api.ErrShut, state{shut: true, given: 3, written: 2}},
			{end(), "", api.ErrShut, state{shut: true, given: 3, written: 2}},
			{put(""), "", api.ErrShut, state{shut: true, given: 3, written: 2}},
		}},
		{fixedOf(2), []step{
			{put("ab"), "a", api.OK, state{kept: 1, given: 2, written: 1}},
			{end(), "b", api.OK, state{shut: true, given: 2, written: 2}},
		}},
		{fixedOf(1), []step{
			{put("a"), "", api.OK, state{kept: 1, given: 1}},
			{put("a"), "", api.ErrFull, state{kept: 1, given: 1}},
			{end(), "a", api.OK, state{shut: true, given: 1, written: 1}},
		}},
		{fixedOf(1), []step{
			{aborting, "", api.OK, state{shut: true}},
			{put("a"), "", api.ErrShut, state{shut: true}},
			{end(), "", api.ErrShut, state{shut: true}},
			{aborting, "", api.ErrShut, state{shut: true}},
		}},
		// of the size 0 there is no last byte
		{fixedOf(0), []step{
			{put(""), "", api.OK, state{}},
			{put("a"), "", api.ErrFull, state{}},
			{end(wrong), "", api.ErrArg, state{}},
			{end(sum), "", api.OK, state{shut: true}},
			{end(), "", api.ErrShut, state{shut: true}},
		}},
		{fixedOf(api.MaxSize), []step{
			{put("abc"), "abc", api.OK, state{given: 3, written: 3}},
			{end(), "", api.ErrMore, state{given: 3, written: 3}},
			{aborting, "", api.OK, state{shut: true, given: 3, written: 3}},
		}},
		{inChunks, []step{
			{put("ab"), "2\r\nab\r\n", api.OK, state{given: 2, written: 7}},
			{put(""), "", api.OK, state{given: 2, written: 7}},
			{end(sum, wrong), "", api.ErrArg, state{given: 2, written: 7}},
			{put("c"), "1\r\nc\r\n", api.OK, state{given: 3, written: 13}},
			{end(host, sum, f("TE", "\r"), f("b", "")), "0\r\nX-Sum: 1\r\nb:\r\n\r\n", api.OK, state{shut: true, given: 3, written: 32}},
			{put("c"), "", api.ErrShut, state{shut: true, given: 3, written: 32}},
			{end(), "", api.ErrShut, state{shut: true, given: 3, written: 32}},
			{aborting, "", api.ErrShut, state{shut: true, given: 3, written: 32}},
		}},
		{inChunks, []step{
			{end(host), "0\r\n\r\n", api.OK, state{shut: true, written: 5}},
		}},
		{inChunks, []step{
			{put("0\r\n\r\n"), "5\r\n0\r\n\r\n\r\n", api.OK, state{given: 5, written: 10}},
			{aborting, "", api.OK, state{shut: true, given: 5, written: 10}},
			{end(wrong), "", api.ErrShut, state{shut: true, given: 5, written: 10}},
			{put("a"), "", api.ErrShut, state{shut: true, given: 5, written: 10}},
		}},
		{toClose, []step{
			{put("ab"), "ab", api.OK, state{given: 2, written: 2}},
			{put(""), "", api.OK, state{given: 2, written: 2}},
			{end(wrong), "", api.ErrArg, state{given: 2, written: 2}},
			{put("c"), "c", api.OK, state{given: 3, written: 3}},
			{end(sum, host), "", api.OK, state{shut: true, given: 3, written: 3}},
			{put("d"), "", api.ErrShut, state{shut: true, given: 3, written: 3}},
			{aborting, "", api.ErrShut, state{shut: true, given: 3, written: 3}},
		}},
		{toClose, []step{
			{aborting, "", api.OK, state{shut: true}},
			{end(), "", api.ErrShut, state{shut: true}},
		}},
	} {
		o, _ := both(t, x.framing)
		var calls []call
		for i, s := range x.steps {
			got, e := s.of(o)
			if string(got) != s.want || e != s.e || e != api.OK && got != nil || stateOf(o) != s.state {
				t.Errorf("%v, step %d: %v = %q, %v, %+v, wanted %q, %v, %+v", x.framing, i, s.call, got, e, stateOf(o), s.want, s.e, s.state)
			}
			calls = append(calls, s.call)
		}
		check(t, x.framing, calls...)
	}
}

// framings are framings that an outlet may have, sizes about those of the stories' pieces among them.
func framings() []api.Framing {
	all := []api.Framing{inChunks, toClose, fixedOf(api.MaxSize)}
	for size := range uint64(7) {
		all = append(all, fixedOf(size))
	}
	return all
}

// P14.1, P14.2 and P14.4: every story of up to four calls out of few.
func TestEveryStory(t *testing.T) {
	menu := []call{put(""), put("a"), put("bc"), put("0\r\n\r\n"), end(), end(f("Host", "\r"), f("x", "1")), end(f("x", " ")), aborting}
	var story func(calls []call)
	story = func(calls []call) {
		for _, framing := range framings() {
			check(t, framing, calls...)
		}
		if len(calls) < 4 && !t.Failed() {
			for _, c := range menu {
				story(append(slices.Clip(calls), c))
			}
		}
	}
	story(nil)
}

// P14.1 and P14.2: just what is left, one byte more, and one less, with an end or an abort anywhere.
func TestFixedAtItsSize(t *testing.T) {
	data := strings.Repeat("0123456789", 3)
	for size := range 24 {
		framing := fixedOf(uint64(size))
		check(t, framing, append(puts(single(data[:size])...), put(""), put("x"), end(), end())...)
		check(t, framing, append(puts(single(data[:size])...), put(""), aborting, end())...)
		for first := range size + 2 {
			check(t, framing, put(data[:first]), aborting, put("x"), end())
			for more := range size - min(first, size) + 2 {
				check(t, framing, put(data[:first]), end(), put(data[:more]), put(""), end(f("x", "\r")), put("x"), put(""), end(), aborting)
				check(t, framing, put(""), put(data[:first]), put(""), put(data[:more]), put(""), aborting, put(""), end())
			}
		}
	}
}

// P14.1: the last byte that is kept is the one that was given last, whichever it is.
func TestEachByteIsKept(t *testing.T) {
	for i := range 256 {
		last := string([]byte{byte(i)})
		for _, ahead := range []string{"", "a", last, "ab" + last} {
			framing := fixedOf(uint64(len(ahead) + 1))
			for _, calls := range [][]call{{put(ahead + last)}, {put(ahead), put(last)}, {put(ahead), put(""), put(last), put(""), put("z")}} {
				o, m := both(t, framing)
				for _, c := range calls {
					c.make(t, o, m)
				}
				if got, e := o.End(); string(got) != last || e != api.OK || o.Kept() != 0 {
					t.Errorf("%v of %q: End() = %q, %v, kept %d", calls, ahead, got, e, o.Kept())
				}
			}
		}
		check(t, inChunks, put(last), end())
		check(t, toClose, put(last), end())
	}
}

// P14.1: long bodies, in pieces of many sizes.
func TestLongBodies(t *testing.T) {
	data := strings.Repeat("0\r\n\r\n\x00abc", 1<<13)
	size := uint64(len(data))
	for _, framing := range []api.Framing{fixedOf(size - 1), fixedOf(size), fixedOf(size + 1), inChunks, toClose} {
		for _, n := range []int{97, 1000, 4096, 65535, 65536, 1 << 20} {
			o, m := both(t, framing)
			var written []byte
			for piece := range slices.Chunk([]byte(data), n) {
				got, e := o.Put(piece)
				_, wantE := m.put(string(piece))
				written = append(written, got...)
				if e != wantE || stateOf(o) != m.state() {
					t.Fatalf("%v by %d: %v, %+v, wanted %v, %+v", framing, n, e, stateOf(o), wantE, m.state())
				}
				if Whole(framing, written) != (framing == toClose) {
					t.Errorf("%v by %d: %d bytes were whole", framing, n, len(written))
				}
			}
			got, e := o.End()
			_, wantE := m.end(nil)
			written = append(written, got...)
			if e != wantE || string(written) != m.written || stateOf(o) != m.state() || Whole(framing, written) != m.ended && framing != toClose {
				t.Errorf("%v by %d: End: %v, %+v, wanted %v, %+v", framing, n, e, stateOf(o), wantE, m.state())
			}
		}
	}
}

// wrongFields are fields that aren't right, of names that may go on, as far as they are names.
func wrongFields() []api.Field {
	return []api.Field{{}, f("", "1"), f("a b", "1"), f(" a", "1"), f("a:", "1"), f("a\r\n", "1"), f("\x80", "1"), f("a", " "), f("a", " 1"), f("a", "1 "), f("a", "\t1"), f("a", "1\t"), f("a", "1\r\nb: 2"), f("a", "\r"), f("a", "\n"), f("a", "\x00"), f("a", "1\x7f2"), f(" host", "1"), f("host ", "1"), f("host:", "1"), f("te\r\n", "1")}
}

// mixed turns the case of each second letter.
func mixed(name string) string {
	b := []byte(strings.ToUpper(name))
	for i := 1; i < len(b); i += 2 {
		b[i] = strings.ToLower(string(b[i]))[0]
	}
	return string(b)
}

// P14.1: trailers that may go on, and that may not, in any spelling, alone and among each other; whether these are right makes no difference.
func TestEndKeepsSomeTrailers(t *testing.T) {
	a, b := f("X-Sum", "1"), f("b", "")
	for _, name := range forbidden() {
		for _, spelt := range []string{name, strings.ToUpper(name), mixed(name)} {
			for _, value := range []string{"1", "", " ", "1\r\nb: 2", "\x00"} {
				no := f(spelt, value)
				for _, l := range [][]api.Field{{no}, {a, no}, {no, a}, {no, a, no, b, no}, {a, b, no}, {no, no}} {
					for _, framing := range []api.Framing{fixedOf(1), inChunks, toClose} {
						check(t, framing, put("a"), end(l...), end(l...))
					}
				}
			}
		}
	}
	o, _ := both(t, inChunks)
	if got, e := o.End(f("TE", "1"), b, f("Trailers", "2"), f("hOsT", "\r"), a, b); string(got) != "0\x0d\x0ab:\x0d\x0aTrailers: 2\x0d\x0aX-Sum: 1\x0d\x0ab:\x0d\x0a\x0d\x0a" || e != api.OK {
		t.Errorf("%q, %v", got, e)
	}
}

// P14.1: fields that aren't right among those that may go on, wherever they stand, leave nothing behind.
func TestEndRefusesFields(t *testing.T) {
	for _, wrong := range wrongFields() {
		for _, l := range [][]api.Field{{wrong}, {f("a", "1"), wrong}, {wrong, f("a", "1")}, {f("a", "1"), wrong, f("b", "")}, {f("Host", "1"), wrong}, {wrong, f("Host", "\r")}} {
			for _, framing := range []api.Framing{fixedOf(0), fixedOf(1), fixedOf(2), inChunks, toClose} {
				o, m := both(t, framing)
				for _, c := range []call{end(l...), put("a"), end(l...), put("b"), put(""), end(l...), end(f("a", "1")), end(l...), put(""), aborting} {
					c.make(t, o, m)
				}
				check(t, framing, put("a"), end(l...), aborting, end(l...), put("b"))
			}
		}
	}
}

// bodies are chunked bodies, with what is written in other ways than an encoder's among them.
func bodies() []string {
	return []string{
		"0\r\n\r\n", "0000000000000000\r\n\r\n", "3\r\nabc\r\n0\r\n\r\n", "1\r\na\r\n2\r\nbc\r\n00\r\n\r\n",
		"A\r\n0123456789\r\n0\r\na: 1\r\n\r\n", "2\r\n\r\n\r\n0\r\na:1\r\nb:\r\nA: \t2 \r\n\r\n", "0\r\nHost: x\r\n\r\n",
		"0;\r\n\r\n", "1;a=b\r\na\r\n0;c=\"d;\"\r\n\r\n", "0002; \t;;\r\nab\r\n0;\xff\r\nx:\xff\r\n\r\n", "5\r\n0\r\n\r\n\r\n0\r\n\r\n",
	}
}

// checkWhole holds Whole against the words of P14.3, for a text and each framing.
func checkWhole(t *testing.T, s string) {
	t.Helper()
	n := uint64(len(s))
	for _, framing := range []api.Framing{none, inChunks, toClose, fixedOf(n), fixedOf(n + 1), fixedOf(n - 1), fixedOf(0), fixedOf(n + 1<<32), {}, {Kind: 4}, {Kind: -1, Size: n}, {Kind: 5, Size: n}} {
		if got, want := Whole(framing, []byte(s)), wantWhole(framing, s); got != want {
			t.Errorf("Whole(%v, %.60q) = %v, wanted %v", framing, s, got, want)
		}
	}
}

// P14.3: cases written out.
func TestWhole(t *testing.T) {
	for _, x := range []struct {
		framing api.Framing
		s       string
		want    bool
	}{
		{none, "", true}, {none, "a", false}, {none, "0\r\n\r\n", false},
		{fixedOf(0), "", true}, {fixedOf(0), "a", false},
		{fixedOf(1), "", false}, {fixedOf(1), "a", true}, {fixedOf(1), "ab", false},
		{fixedOf(3), "ab", false}, {fixedOf(3), "abc", true}, {fixedOf(3), "abcd", false},
		{fixedOf(5), "0\r\n\r\n", true}, {fixedOf(1<<32 + 1), "a", false}, {fixedOf(api.MaxSize), "a", false},
		{toClose, "", true}, {toClose, "a", true}, {toClose, "0\r\n", true},
		{inChunks, "", false}, {inChunks, "0", false}, {inChunks, "0\r\n", false}, {inChunks, "0\r\n\r", false}, {inChunks, "0\r\n\r\n", true},
		{inChunks, "0\r\n\r\n\n", false}, {inChunks, "0\r\n\r\n0\r\n\r\n", false}, {inChunks, "0\n\n", false}, {inChunks, "\r\n", false},
		{inChunks, "1\r\na\r\n", false}, {inChunks, "1\r\na\r\n0\r\n\r\n", true}, {inChunks, "1\r\nab\r\n0\r\n\r\n", false}, {inChunks, "2\r\na\r\n0\r\n\r\n", false},
		{inChunks, "0;x\r\na: 1\r\n\r\n", true}, {inChunks, "0;x\r\na 1\r\n\r\n", false}, {inChunks, "0;\x00\r\n\r\n", false}, {inChunks, "4000000000000000\r\n", false},
		{api.Framing{Kind: 4}, "", false}, {api.Framing{Kind: -1}, "", false}, {api.Framing{Kind: 9}, "0\r\n\r\n", false},
		{api.Framing{Kind: api.Nothing, Size: 1}, "", false}, {api.Framing{Kind: api.Nothing, Size: 1}, "a", false},
		{api.Framing{Kind: api.Chunked, Size: 1}, "0\r\n\r\n", false}, {api.Framing{Kind: api.Chunked, Size: 5}, "0\r\n\r\n", false},
		{api.Framing{Kind: api.UntilClose, Size: 1}, "a", false}, {api.Framing{Kind: api.UntilClose, Size: 1}, "", false},
		{fixedOf(api.MaxSize + 1), "", false}, {fixedOf(1 << 63), "", false}, {fixedOf(math.MaxUint64), "", false},
	} {
		if got := Whole(x.framing, []byte(x.s)); got != x.want || wantWhole(x.framing, x.s) != x.want {
			t.Errorf("Whole(%v, %q) = %v, wanted %v", x.framing, x.s, got, x.want)
		}
	}
}

// P14.3: each kind with each size, with no bytes and with some.
func TestWholeOfEachFraming(t *testing.T) {
	for _, kind := range kinds() {
		for _, size := range sizes() {
			for _, n := range []int{0, 1, 2, 3, 4, 255, 256, 257, 65535, 65536, 65537} {
				framing := api.Framing{Kind: kind, Size: size}
				s := strings.Repeat("a", n)
				if got, want := Whole(framing, []byte(s)), wantWhole(framing, s); got != want {
					t.Errorf("Whole(%v, %d bytes) = %v, wanted %v", framing, n, got, want)
				}
			}
		}
	}
}

// P14.3: chunked bodies whole, cut short anywhere, with bytes behind them, and with each byte put in, changed or left out at each place.
func TestWholeChunkedBodies(t *testing.T) {
	for _, s := range bodies() {
		if !Whole(inChunks, []byte(s)) {
			t.Errorf("Whole(%q) = false", s)
		}
		for at := range len(s) {
			if Whole(inChunks, []byte(s[:at])) {
				t.Errorf("Whole(%q) = true", s[:at])
			}
			checkWhole(t, s[:at])
			checkWhole(t, s[:at]+s[at+1:])
		}
		for c := range 256 {
			one := string([]byte{byte(c)})
			if Whole(inChunks, []byte(s+one)) {
				t.Errorf("Whole(%q) = true", s+one)
			}
			for at := range len(s) {
				checkWhole(t, s[:at]+one+s[at:])
				checkWhole(t, s[:at]+one+s[at+1:])
			}
		}
		for _, other := range bodies() {
			checkWhole(t, s+other)
		}
	}
}

// P14.3: every short text of few bytes.
func TestWholeOfEveryShortText(t *testing.T) {
	texts := []string{""}
	for range 6 {
		var longer []string
		for _, s := range texts {
			checkWhole(t, s)
			for _, c := range single("01\r\n:;") {
				longer = append(longer, s+c)
			}
		}
		texts = longer
	}
	for _, s := range texts {
		checkWhole(t, s)
		checkWhole(t, s+"\r\n")
	}
}

// P14.3: each limit is the greatest one, and no more.
func TestWholeAtTheLimits(t *testing.T) {
	const most = 65536
	x := strings.Repeat("x", most+2)
	for n := most - 2; n <= most+2; n++ {
		for name, s := range map[string]string{
			"an extension of the last size": "0;" + x[:n-1] + "\r\n\r\n",
			"an extension of a chunk":       "1;" + x[:n-1] + "\r\na\r\n0\r\n\r\n",
			"one line of bytes":             "0\r\na:" + x[:n-4] + "\r\n\r\n",
			"two lines of bytes":            "0\r\na:\r\nb:" + x[:n-8] + "\r\n\r\n",
		} {
			if got, want := Whole(inChunks, []byte(s)), n <= most; got != want || wantBody(s) != want {
				t.Errorf("%s, %d: %v", name, n, got)
			}
		}
	}
	for n := most/4 - 2; n <= most/4+2; n++ {
		s := "0\r\n" + strings.Repeat("a:\r\n", n) + "\r\n"
		if got, want := Whole(inChunks, []byte(s)), n <= most/4; got != want || wantBody(s) != want {
			t.Errorf("%d fields: %v", n, got)
		}
	}
}

// anyFields makes trailers, such as may go on and such as may not.
func anyFields(r *rand.Rand) (l []api.Field) {
	for range r.Intn(5) {
		l = append(l, []api.Field{f("a", "1"), f("B-c", ""), f("!", "x y"), f("x", "\xe4"), f("Host", "1"), f("tE", "\r\n"), f("Set-Cookie", " ")}[r.Intn(7)])
	}
	return l
}

// anyPiece makes bytes that look like parts of bodies.
func anyPiece(r *rand.Rand) string {
	var b strings.Builder
	for range r.Intn(1 << r.Intn(6)) {
		b.WriteString([]string{"0\r\n\r\n", "\r\n", "\r", "\n", "a", "\x00", "\xff", ";x", "x: 1\r\n", "f"}[r.Intn(10)])
	}
	return b.String()
}

// P14.1, P14.2 and P14.4: any calls of any kind, to an end, to an abort, and given up.
func TestAnyCalls(t *testing.T) {
	r := rand.New(rand.NewSource(14))
	for range 1500 {
		var calls []call
		data := ""
		for range r.Intn(10) {
			piece := anyPiece(r)
			calls = append(calls, put(piece))
			data += piece
			if r.Intn(5) == 0 {
				calls = append(calls, end(append(anyFields(r), f("x", "1\r"))...))
			}
		}
		size := uint64(len(data))
		for _, last := range [][]call{{end(anyFields(r)...)}, {aborting}, nil} {
			all := append(slices.Clone(calls), append(last, put("x"), aborting, end())...)
			for _, framing := range []api.Framing{inChunks, toClose, fixedOf(size), fixedOf(size + 1), fixedOf(size - min(size, 1)), fixedOf(uint64(r.Intn(2*len(data) + 1)))} {
				check(t, framing, all...)
			}
		}
	}
}

// P14.4: behind each byte of each body that isn't ended, whether given up or aborted; ended it is whole.
func TestNotEndedIsNotWhole(t *testing.T) {
	const data = "0\r\n\r\n3\r\nabc\r\n0\r\na: 1\r\n\r\n"
	for n := 1; n <= len(data); n++ {
		for _, framing := range []api.Framing{fixedOf(uint64(n)), inChunks} {
			for at := range n + 1 {
				for _, last := range []call{aborting, end(), end(f("a", "\r")), end(f("TE", ""))} {
					m := check(t, framing, put(data[:at]), put(data[at:n]), last)
					if m.ended != (last.name == "End" && (len(last.fields) == 0 || last.fields[0].Name == "TE")) {
						t.Errorf("%v, %v: ended %v", framing, last, m.ended)
					}
				}
			}
		}
	}
	for _, framing := range []api.Framing{toClose, fixedOf(0)} {
		for _, last := range [][]call{nil, {put("")}, {aborting}, {end()}} {
			m := check(t, framing, last...)
			if !Whole(framing, []byte(m.written)) {
				t.Errorf("%v, %v: not whole", framing, last)
			}
		}
	}
}

// P14.1: what an outlet says is to be written is what an encoder of layer 10 would, but for the byte that is kept.
func TestAsAnEncoder(t *testing.T) {
	pieces := []string{"", "abc", "\r\n", "", "0123456789abcdef", "x", ""}
	size := uint64(len(strings.Join(pieces, "")))
	for _, framing := range []api.Framing{inChunks, toClose, fixedOf(size), fixedOf(size + 1), fixedOf(api.MaxSize)} {
		o, _ := both(t, framing)
		encoder, _ := enchunk.New(framing)
		var written, wanted []byte
		for _, piece := range pieces {
			got, _ := o.Put([]byte(piece))
			want, _ := encoder.Put([]byte(piece))
			written, wanted = append(written, got...), append(wanted, want...)
			if string(written) != string(wanted[:len(wanted)-o.Kept()]) || o.Given() != encoder.Given() {
				t.Errorf("%v, behind %q: %q, wanted %q", framing, piece, written, wanted)
			}
		}
		got, e := o.End(f("a", "1"), f("Host", "2"))
		want, wantE := encoder.End(f("a", "1"))
		if all, wantAll := string(append(written, got...)), string(append(wanted, want...)); e != wantE || e == api.OK && all != wantAll {
			t.Errorf("%v: %q, %v, wanted %q, %v", framing, all, e, wantAll, wantE)
		}
	}
}

// P14.1 and P14.3 with R3: nil is a piece of no bytes, and a list without fields.
func TestNothingIsHandedIn(t *testing.T) {
	for _, framing := range []api.Framing{fixedOf(0), fixedOf(1), inChunks, toClose} {
		for _, empty := range [][]byte{nil, {}, []byte("abc")[:0]} {
			for _, l := range [][]api.Field{nil, {}, wrongFields()[:0]} {
				o, m := both(t, framing)
				for _, c := range []call{put(""), put("a"), put("")} {
					if c.piece == "a" {
						c.make(t, o, m)
						continue
					}
					if got, e := o.Put(empty); len(got) != 0 || e != api.OK || stateOf(o) != m.state() {
						t.Errorf("%v: Put of nothing = %q, %v, %+v", framing, got, e, stateOf(o))
					}
				}
				got, e := o.End(l...)
				if want, wantE := m.end(nil); string(got) != want || e != wantE || stateOf(o) != m.state() {
					t.Errorf("%v: End of nothing = %q, %v, wanted %q, %v", framing, got, e, want, wantE)
				}
				if got, e := o.Put(empty); got != nil || e != api.ErrShut {
					t.Errorf("%v, shut: %q, %v", framing, got, e)
				}
			}
		}
	}
	for _, empty := range [][]byte{nil, {}, []byte("abc")[:0]} {
		for _, framing := range []api.Framing{none, fixedOf(0), toClose} {
			if !Whole(framing, empty) {
				t.Errorf("Whole(%v, nothing) = false", framing)
			}
		}
		for _, framing := range []api.Framing{fixedOf(1), inChunks, {Kind: 4}, {Kind: api.UntilClose, Size: 1}} {
			if Whole(framing, empty) {
				t.Errorf("Whole(%v, nothing) = true", framing)
			}
		}
	}
}

func overwrite(b []byte) {
	b = b[:cap(b)]
	for i := range b {
		b[i] = '!'
	}
}

// P14.1 and P14.3 with R4: what is handed in stays as it is, its spare room too.
func TestWhatIsHandedInStays(t *testing.T) {
	const text = "0\r\n\r\n, and spare room"
	room := []byte(text)
	list := []api.Field{f("a", "1"), f("Host", "2"), f("b", "3"), f("TE", "4"), f("spare", "room")}
	fields := slices.Clone(list)
	stays := func(what string) {
		t.Helper()
		if string(room) != text || !slices.Equal(fields, list) {
			t.Errorf("behind %s: %q, %q", what, room, fields)
		}
	}
	for _, framing := range []api.Framing{fixedOf(10), inChunks, toClose} {
		o, _ := both(t, framing)
		for range 2 {
			b, _ := o.Put(room[:5])
			stays("Put")
			overwrite(b)
			stays("Put, its answer overwritten")
		}
		b, e := o.End(fields[:3]...)
		overwrite(b)
		stays("End")
		if e != api.OK {
			t.Errorf("%v: %v", framing, e)
		}
		Whole(framing, room[:5])
		stays("Whole")
		Whole(framing, room)
		stays("Whole")
	}
}

// P14.1 with R4: what is written later into a piece, a list or an answer, its spare room too, makes no difference.
func TestNothingIsShared(t *testing.T) {
	for _, framing := range []api.Framing{fixedOf(1), fixedOf(2), fixedOf(3), fixedOf(6), inChunks, toClose} {
		o, m := both(t, framing)
		var answers [][]byte
		var wants []string
		told := func(got []byte, want string) {
			answers, wants = append(answers, got), append(wants, want)
			for i := range answers {
				if string(answers[i]) != wants[i] {
					t.Errorf("%v, answer %d: %q, wanted %q", framing, i, answers[i], wants[i])
				}
			}
		}
		for _, piece := range []string{"a", "bc", "d", "ef"} {
			b := append([]byte(piece), "spare"...)[:len(piece)]
			got, _ := o.Put(b)
			overwrite(b)
			want, _ := m.put(piece)
			told(got, want)
		}
		l := []api.Field{f("a", "1"), f("Host", "2")}
		got, _ := o.End(l...)
		l[0], l[1] = f("over", "written"), f("over", "written")
		want, _ := m.end([]api.Field{f("a", "1")})
		told(got, want)
		for i := range answers {
			overwrite(answers[i])
			wants[i] = strings.Repeat("!", len(wants[i]))
			told(nil, "")
		}
	}
}

// P14.1 with R4: the byte that is kept is the one that was given, though all that was answered is overwritten ahead of the end.
func TestWhatIsKeptIsItsOwn(t *testing.T) {
	for size := 1; size < 20; size++ {
		for cut := range size + 1 {
			o, _ := both(t, fixedOf(uint64(size)))
			data := []byte("abcdefghijklmnopqrstuvwxyz")[:size]
			last := string(data[size-1:])
			for _, piece := range [][]byte{data[:cut], data[cut:], nil} {
				got, e := o.Put(piece)
				if e != api.OK {
					t.Fatal(e)
				}
				if strings.Contains(string(got[:cap(got)]), last) {
					t.Errorf("size %d, cut at %d: %q, with the spare room %q", size, cut, got, got[:cap(got)])
				}
				overwrite(got)
			}
			overwrite(data)
			if got, e := o.End(); string(got) != last || e != api.OK {
				t.Errorf("size %d, cut at %d: End() = %q, %v, wanted %q", size, cut, got, e, last)
			}
		}
	}
}

// P14.1 and P14.2 with R5: asking changes nothing, and what other outlets are given makes no difference.
func TestOutletsAreApart(t *testing.T) {
	all := []api.Framing{fixedOf(3), fixedOf(3), inChunks, fixedOf(4), inChunks, toClose, fixedOf(0), toClose}
	calls := []call{put("a"), put("bc"), put(""), put("d"), end(f("x", " ")), end(f("x", "1"), f("Host", "")), put("e"), aborting, end()}
	outlets, models := make([]*Outlet, len(all)), make([]*model, len(all))
	for i, framing := range all {
		outlets[i], models[i] = both(t, framing)
	}
	for step := range len(calls) + len(all) {
		for i := range all {
			if at := step - i; at >= 0 && at < len(calls) {
				calls[at].make(t, outlets[i], models[i])
			}
			for range 2 {
				if got, want := stateOf(outlets[i]), models[i].state(); got != want {
					t.Errorf("step %d, %v: %+v, wanted %+v", step, all[i], got, want)
				}
			}
			checkTrust(t, models[i])
		}
	}
}

// R1: several goroutines at once, with an outlet each, and Whole, which has none.
func TestSeveralGoroutines(t *testing.T) {
	text := []byte("1;x\r\na\r\n0\r\na: 1\r\n\r\n")
	var wait sync.WaitGroup
	for i := range 8 {
		wait.Go(func() {
			for n := range 50 {
				piece := strings.Repeat("x", i*n)
				for _, framing := range []api.Framing{fixedOf(uint64(i*n) + 1), inChunks, toClose} {
					check(t, framing, put(piece), put("y"), end(f("a", "1"), f("Host", "2")))
				}
				if !Whole(inChunks, text) || Whole(inChunks, text[:i]) {
					t.Error("Whole")
				}
			}
		})
	}
	wait.Wait()
}
