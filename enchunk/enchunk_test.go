package enchunk

import (
	"bytes"
	"fmt"
	"math"
	"math/rand"
	"slices"
	"strings"
	"sync"
	"testing"

	"catchpit/api"
	"catchpit/body"
)

var wide = api.Limits{Ext: api.MaxLimit, Fields: api.MaxLimit, Bytes: api.MaxLimit}

func f(name, value string) api.Field { return api.Field{Name: name, Value: value} }

// wantRight asks what chapters 2 and 5 say of a field, byte by byte.
func wantRight(f api.Field) bool {
	for _, c := range []byte(f.Name) {
		if !strings.ContainsRune("abcdefghijklmnopqrstuvwxyzABCDEFGHIJKLMNOPQRSTUVWXYZ0123456789!#$%&'*+-.^_`|~", rune(c)) {
			return false
		}
	}
	for _, c := range []byte(f.Value) {
		if c < 0x20 && c != 0x09 || c == 0x7f {
			return false
		}
	}
	return f.Name != "" && f.Value == strings.Trim(f.Value, " \t")
}

func allRight(l []api.Field) bool {
	return !slices.ContainsFunc(l, func(f api.Field) bool { return !wantRight(f) })
}

func wantChunk(b string) string {
	if b == "" {
		return ""
	}
	return fmt.Sprintf("%x\x0d\x0a%s\x0d\x0a", len(b), b)
}

func wantLast(l []api.Field) string {
	last := "0\x0d\x0a"
	for _, f := range l {
		last += f.Name + ":"
		if f.Value != "" {
			last += " " + f.Value
		}
		last += "\x0d\x0a"
	}
	return last + "\x0d\x0a"
}

// model is what the chapter's words say of an encoder.
type model struct {
	framing api.Framing
	given   int64
	ended   bool
}

func (m *model) left() uint64 {
	if m.framing.Kind != api.Fixed {
		return 0
	}
	return m.framing.Size - uint64(m.given)
}

func (m *model) put(b string) (string, api.Errno) {
	switch {
	case m.ended:
		return "", api.ErrShut
	case m.framing.Kind == api.Fixed && uint64(len(b)) > m.left():
		return "", api.ErrFull
	}
	m.given += int64(len(b))
	if m.framing.Kind == api.Chunked {
		return wantChunk(b), api.OK
	}
	return b, api.OK
}

func (m *model) end(l []api.Field) (string, api.Errno) {
	switch {
	case m.ended:
		return "", api.ErrShut
	case m.left() > 0:
		return "", api.ErrMore
	case !allRight(l):
		return "", api.ErrArg
	}
	m.ended = true
	if m.framing.Kind == api.Chunked {
		return wantLast(l), api.OK
	}
	return "", api.OK
}

// call is one call of an encoder: its end with some fields, or a piece that it is given.
type call struct {
	ends   bool
	fields []api.Field
	piece  string
}

func (c call) String() string {
	if c.ends {
		return fmt.Sprintf("End(%q)", c.fields)
	}
	return fmt.Sprintf("Put(%.40q)", c.piece)
}

func put(piece string) call { return call{piece: piece} }

func end(l ...api.Field) call { return call{ends: true, fields: l} }

// make makes the call of both, and holds what they answer, and what stands behind it, against each other.
func (c call) make(t *testing.T, e *Encoder, m *model) string {
	t.Helper()
	var got []byte
	var want string
	var bad, wantBad api.Errno
	if c.ends {
		got, bad = e.End(c.fields...)
		want, wantBad = m.end(c.fields)
	} else {
		got, bad = e.Put([]byte(c.piece))
		want, wantBad = m.put(c.piece)
	}
	if string(got) != want || bad != wantBad || bad != api.OK && got != nil {
		t.Errorf("%+v: %v = %.40q, %v, wanted %.40q, %v", *m, c, got, bad, want, wantBad)
	}
	if e.Left() != m.left() || e.Given() != m.given {
		t.Errorf("%+v: behind %v: left %d, given %d, wanted %d, %d", *m, c, e.Left(), e.Given(), m.left(), m.given)
	}
	return string(got)
}

// check makes the calls of a new encoder, and tells what it wrote.
func check(t *testing.T, framing api.Framing, calls ...call) string {
	t.Helper()
	e, bad := New(framing)
	if bad != api.OK {
		t.Fatalf("New(%v): %v", framing, bad)
	}
	m := &model{framing: framing}
	written := ""
	for _, c := range calls {
		written += c.make(t, e, m)
	}
	return written
}

func fixedOf(size uint64) api.Framing { return api.Framing{Kind: api.Fixed, Size: size} }

var (
	inChunks = api.Framing{Kind: api.Chunked}
	toClose  = api.Framing{Kind: api.UntilClose}
)

// P10.1
func TestChunk(t *testing.T) {
	long := strings.Repeat("0123456789abcdef", 1<<12)
	for _, x := range []struct{ data, want string }{
		{"", ""},
		{"abc", "3\x0d\x0aabc\x0d\x0a"},
		{"x", "1\x0d\x0ax\x0d\x0a"},
		{"\x00", "1\x0d\x0a\x00\x0d\x0a"},
		{"0", "1\x0d\x0a0\x0d\x0a"},
		{"\r\n", "2\x0d\x0a\x0d\x0a\x0d\x0a"},
		{"0\r\n\r\n", "5\x0d\x0a0\x0d\x0a\x0d\x0a\x0d\x0a"},
		{"123456789", "9\x0d\x0a123456789\x0d\x0a"},
		{"1234567890", "a\x0d\x0a1234567890\x0d\x0a"},
		{"123456789012345", "f\x0d\x0a123456789012345\x0d\x0a"},
		{"1234567890123456", "10\x0d\x0a1234567890123456\x0d\x0a"},
		{"\x80\xff\x7f;:", "5\x0d\x0a\x80\xff\x7f;:\x0d\x0a"},
		{long[:255], "ff\x0d\x0a" + long[:255] + "\x0d\x0a"},
		{long[:256], "100\x0d\x0a" + long[:256] + "\x0d\x0a"},
		{long[:4095], "fff\x0d\x0a" + long[:4095] + "\x0d\x0a"},
		{long[:4096], "1000\x0d\x0a" + long[:4096] + "\x0d\x0a"},
		{long[:65535], "ffff\x0d\x0a" + long[:65535] + "\x0d\x0a"},
		{long, "10000\x0d\x0a" + long + "\x0d\x0a"},
	} {
		if got := Chunk([]byte(x.data)); string(got) != x.want {
			t.Errorf("Chunk(%.40q) = %.40q, wanted %.40q", x.data, got, x.want)
		}
	}
	for _, empty := range [][]byte{nil, {}, make([]byte, 0, 9), []byte("abc")[:0]} {
		if got := Chunk(empty); len(got) != 0 {
			t.Errorf("Chunk of nothing = %q", got)
		}
	}
}

// P10.1: each byte, and each length up to some.
func TestChunkOfAnyBytes(t *testing.T) {
	for i := range 256 {
		if got, want := string(Chunk([]byte{byte(i), 'x', byte(i)})), string([]byte{'3', 13, 10, byte(i), 'x', byte(i), 13, 10}); got != want {
			t.Errorf("byte %d: %q, wanted %q", i, got, want)
		}
	}
	data := make([]byte, 5000)
	for i := range data {
		data[i] = byte(i * 7)
	}
	for n := range data {
		if got, want := string(Chunk(data[:n])), wantChunk(string(data[:n])); got != want {
			t.Errorf("%d bytes: %.20q, wanted %.20q", n, got, want)
		}
	}
}

// P10.1: several fields are lines in order, names again among them; no field is the empty line alone.
func TestLast(t *testing.T) {
	for _, x := range []struct {
		l    []api.Field
		want string
	}{
		{nil, "0\x0d\x0a\x0d\x0a"},
		{[]api.Field{}, "0\x0d\x0a\x0d\x0a"},
		{[]api.Field{f("x", "1")}, "0\x0d\x0ax: 1\x0d\x0a\x0d\x0a"},
		{[]api.Field{f("X-Sum", "")}, "0\x0d\x0aX-Sum:\x0d\x0a\x0d\x0a"},
		{[]api.Field{f("b", "2 3"), f("a", "1"), f("B", "4\t5")}, "0\x0d\x0ab: 2 3\x0d\x0aa: 1\x0d\x0aB: 4\t5\x0d\x0a\x0d\x0a"},
		{[]api.Field{f("a", "1"), f("a", "1"), f("a", "")}, "0\x0d\x0aa: 1\x0d\x0aa: 1\x0d\x0aa:\x0d\x0a\x0d\x0a"},
		{[]api.Field{f("!#$%&'*+-.^_`|~09azAZ", "\xe4\x80:;,\"")}, "0\x0d\x0a!#$%&'*+-.^_`|~09azAZ: \xe4\x80:;,\"\x0d\x0a\x0d\x0a"},
		{[]api.Field{f("Host", "x"), f("Content-Length", "5")}, "0\x0d\x0aHost: x\x0d\x0aContent-Length: 5\x0d\x0a\x0d\x0a"},
	} {
		if got, e := Last(x.l...); string(got) != x.want || e != api.OK {
			t.Errorf("Last(%q) = %q, %v, wanted %q", x.l, got, e, x.want)
		}
	}
	if got, e := Last(); string(got) != "0\x0d\x0a\x0d\x0a" || e != api.OK {
		t.Errorf("Last() = %q, %v", got, e)
	}
}

// wrongFields are fields that aren't right.
func wrongFields() []api.Field {
	return []api.Field{{}, f("", "1"), f("a b", "1"), f(" a", "1"), f("a:", "1"), f("a\r\n", "1"), f("\x80", "1"), f("a", " "), f("a", " 1"), f("a", "1 "), f("a", "\t1"), f("a", "1\t"), f("a", "1\r\nb: 2"), f("a", "\r"), f("a", "\n"), f("a", "\x00"), f("a", "1\x7f2")}
}

// P10.1: one field that isn't right, wherever it stands.
func TestLastRefuses(t *testing.T) {
	good := []api.Field{f("a", "1"), f("b", ""), f("c", "3")}
	for _, wrong := range wrongFields() {
		for at := range len(good) + 1 {
			l := slices.Insert(slices.Clone(good), at, wrong)
			if got, e := Last(l...); got != nil || e != api.ErrArg {
				t.Errorf("Last(%q) = %q, %v, wanted ErrArg", l, got, e)
			}
		}
		if got, e := Last(wrong); got != nil || e != api.ErrArg {
			t.Errorf("Last(%q) = %q, %v, wanted ErrArg", wrong, got, e)
		}
	}
}

// P10.1: every byte, in names and values.
func TestLastOfEveryByte(t *testing.T) {
	for i := range 256 {
		c := string([]byte{byte(i)})
		for _, x := range []api.Field{f(c, "v"), f("n"+c, "v"), f(c+"n", "v"), f("n"+c+"n", ""), f("n", c), f("n", "v"+c), f("n", c+"v"), f("n", "v"+c+"v")} {
			got, e := Last(x)
			want, wantE := wantLast([]api.Field{x}), api.OK
			if !wantRight(x) {
				want, wantE = "", api.ErrArg
			}
			if string(got) != want || e != wantE {
				t.Errorf("Last(%q) = %q, %v, wanted %q, %v", x, got, e, want, wantE)
			}
		}
	}
}

// P10.1: 0 and less, and around each power of 16.
func TestCost(t *testing.T) {
	for _, n := range []int{0, -1, -2, -15, -16, -17, -1 << 31, -1 << 32, -1<<32 + 1, math.MinInt, math.MinInt + 1} {
		if got := Cost(n); got != 0 {
			t.Errorf("Cost(%d) = %d, wanted 0", n, got)
		}
	}
	for digits, n := 1, 1; ; digits, n = digits+1, n<<4 {
		for _, x := range []struct{ n, want int }{{n, digits + 4}, {n + 1, digits + 4}, {n*15 + (n - 1), digits + 4}} {
			if got := Cost(x.n); got != x.want && x.n > 0 {
				t.Errorf("Cost(%d) = %d, wanted %d", x.n, got, x.want)
			}
		}
		if n > 1 && Cost(n-1) != digits+3 {
			t.Errorf("Cost(%d) = %d, wanted %d", n-1, Cost(n-1), digits+3)
		}
		if digits == 16 {
			break
		}
	}
	for _, x := range []struct{ n, want int }{{1, 5}, {3, 5}, {9, 5}, {10, 5}, {15, 5}, {16, 6}, {17, 6}, {255, 6}, {256, 7}, {4095, 7}, {4096, 8}, {65535, 8}, {65536, 9}, {api.MaxSize, 20}, {math.MaxInt, 20}} {
		if got := Cost(x.n); got != x.want {
			t.Errorf("Cost(%d) = %d, wanted %d", x.n, got, x.want)
		}
	}
}

// P10.1: Cost is what Chunk adds.
func TestCostOfChunks(t *testing.T) {
	data := make([]byte, 70000)
	for n := 0; n < len(data); n += 1 + n/100 {
		if got := len(Chunk(data[:n])) - n; got != Cost(n) {
			t.Errorf("a chunk of %d bytes has %d more, Cost tells %d", n, got, Cost(n))
		}
	}
}

// P10.2
func TestNew(t *testing.T) {
	good := []api.Framing{inChunks, toClose}
	for _, size := range []uint64{0, 1, 2, 5, 1 << 31, 1 << 32, 1 << 61, api.MaxSize - 1, api.MaxSize} {
		good = append(good, fixedOf(size))
	}
	for _, framing := range good {
		e, bad := New(framing)
		if e == nil || bad != api.OK {
			t.Errorf("New(%v) = %v, %v", framing, e, bad)
			continue
		}
		if e.Left() != framing.Size || e.Given() != 0 {
			t.Errorf("New(%v): left %d, given %d", framing, e.Left(), e.Given())
		}
		if b, bad := e.Put(nil); len(b) != 0 || bad != api.OK {
			t.Errorf("New(%v) isn't open: %v", framing, bad)
		}
	}
}

// P10.2: kinds that aren't one, sizes that are too great, and sizes beside other kinds than Fixed.
func TestNewRefuses(t *testing.T) {
	sizes := []uint64{0, 1, 5, api.MaxSize, api.MaxSize + 1, 1 << 63, math.MaxUint64}
	for _, kind := range []int{api.Nothing, -1, -2, -3, 4, 5, 1 << 8, 1<<8 + 1, 1<<16 + 2, 1 << 32, 1<<32 + 1, 1<<32 + 2, 1<<32 + 3, math.MaxInt, math.MinInt, math.MinInt + 1} {
		for _, size := range sizes {
			if e, bad := New(api.Framing{Kind: kind, Size: size}); e != nil || bad != api.ErrArg {
				t.Errorf("New of kind %d, size %d = %v, %v, wanted ErrArg", kind, size, e, bad)
			}
		}
	}
	for _, size := range sizes[1:] {
		for _, kind := range []int{api.Chunked, api.UntilClose} {
			if e, bad := New(api.Framing{Kind: kind, Size: size}); e != nil || bad != api.ErrArg {
				t.Errorf("New of kind %d, size %d = %v, %v, wanted ErrArg", kind, size, e, bad)
			}
		}
	}
	for _, size := range []uint64{api.MaxSize + 1, api.MaxSize + 2, 1<<62 + 1<<61, 1 << 63, math.MaxUint64} {
		if e, bad := New(fixedOf(size)); e != nil || bad != api.ErrArg {
			t.Errorf("New of size %d = %v, %v, wanted ErrArg", size, e, bad)
		}
	}
}

// step is one call, with what it answers, and what is told behind it.
type step struct {
	call
	want  string
	bad   api.Errno
	left  uint64
	given int64
}

// P10.2: stories of each kind, with what is told behind each call, also behind one that is refused.
func TestStories(t *testing.T) {
	sum, wrong := f("x-sum", "1"), f("", "1")
	for _, x := range []struct {
		framing api.Framing
		steps   []step
	}{
		{fixedOf(5), []step{
			{put("abc"), "abc", api.OK, 2, 3},
			{put("def"), "", api.ErrFull, 2, 3},
			{put(""), "", api.OK, 2, 3},
			{end(), "", api.ErrMore, 2, 3},
			{end(sum), "", api.ErrMore, 2, 3},
			{end(wrong), "", api.ErrMore, 2, 3},
			{put("d"), "d", api.OK, 1, 4},
			{put("ef"), "", api.ErrFull, 1, 4},
			{put("e"), "e", api.OK, 0, 5},
			{put("f"), "", api.ErrFull, 0, 5},
			{put(""), "", api.OK, 0, 5},
			{end(wrong), "", api.ErrArg, 0, 5},
			{end(sum, wrong), "", api.ErrArg, 0, 5},
			{put("f"), "", api.ErrFull, 0, 5},
			{end(sum), "", api.OK, 0, 5},
			{end(sum), "", api.ErrShut, 0, 5},
			{end(wrong), "", api.ErrShut, 0, 5},
			{put("f"), "", api.ErrShut, 0, 5},
			{put(""), "", api.ErrShut, 0, 5},
		}},
		{fixedOf(0), []step{
			{put("a"), "", api.ErrFull, 0, 0},
			{put(""), "", api.OK, 0, 0},
			{end(wrong), "", api.ErrArg, 0, 0},
			{end(), "", api.OK, 0, 0},
			{put("a"), "", api.ErrShut, 0, 0},
			{end(), "", api.ErrShut, 0, 0},
		}},
		{fixedOf(api.MaxSize), []step{
			{put("abc"), "abc", api.OK, 1<<62 - 4, 3},
			{end(), "", api.ErrMore, 1<<62 - 4, 3},
			{end(wrong), "", api.ErrMore, 1<<62 - 4, 3},
		}},
		{inChunks, []step{
			{put("abc"), "3\r\nabc\r\n", api.OK, 0, 3},
			{put(""), "", api.OK, 0, 3},
			{put("0123456789abcdef"), "10\r\n0123456789abcdef\r\n", api.OK, 0, 19},
			{end(wrong), "", api.ErrArg, 0, 19},
			{end(sum, wrong, sum), "", api.ErrArg, 0, 19},
			{put("\r\n"), "2\r\n\r\n\r\n", api.OK, 0, 21},
			{end(sum, f("b", "")), "0\r\nx-sum: 1\r\nb:\r\n\r\n", api.OK, 0, 21},
			{put("a"), "", api.ErrShut, 0, 21},
			{put(""), "", api.ErrShut, 0, 21},
			{end(), "", api.ErrShut, 0, 21},
			{end(wrong), "", api.ErrShut, 0, 21},
		}},
		{inChunks, []step{
			{end(), "0\r\n\r\n", api.OK, 0, 0},
			{end(), "", api.ErrShut, 0, 0},
			{put("a"), "", api.ErrShut, 0, 0},
		}},
		{toClose, []step{
			{put("abc"), "abc", api.OK, 0, 3},
			{put(""), "", api.OK, 0, 3},
			{put("0\r\n\r\n"), "0\r\n\r\n", api.OK, 0, 8},
			{end(wrong), "", api.ErrArg, 0, 8},
			{put("d"), "d", api.OK, 0, 9},
			{end(sum), "", api.OK, 0, 9},
			{put("a"), "", api.ErrShut, 0, 9},
			{put(""), "", api.ErrShut, 0, 9},
			{end(sum), "", api.ErrShut, 0, 9},
			{end(wrong), "", api.ErrShut, 0, 9},
		}},
		{toClose, []step{
			{end(), "", api.OK, 0, 0},
			{end(), "", api.ErrShut, 0, 0},
		}},
	} {
		e, _ := New(x.framing)
		m := &model{framing: x.framing}
		for i, s := range x.steps {
			got, bad := []byte(nil), api.OK
			if s.ends {
				got, bad = e.End(s.fields...)
				m.end(s.fields)
			} else {
				got, bad = e.Put([]byte(s.piece))
				m.put(s.piece)
			}
			if string(got) != s.want || bad != s.bad || bad != api.OK && got != nil || e.Left() != s.left || e.Given() != s.given {
				t.Errorf("%v, step %d: %v = %q, %v, left %d, given %d, wanted %q, %v, %d, %d", x.framing, i, s.call, got, bad, e.Left(), e.Given(), s.want, s.bad, s.left, s.given)
			}
			if m.left() != s.left || m.given != s.given {
				t.Errorf("%v, step %d: the model itself tells %d, %d", x.framing, i, m.left(), m.given)
			}
		}
	}
}

// P10.2: no kind but Fixed refuses data, and each refuses a field that isn't right.
func TestEndRefusesFields(t *testing.T) {
	for _, framing := range []api.Framing{fixedOf(2), inChunks, toClose} {
		for _, wrong := range wrongFields() {
			for _, l := range [][]api.Field{{wrong}, {f("a", "1"), wrong}, {wrong, f("a", "1")}, {f("a", "1"), wrong, f("b", "")}} {
				check(t, framing, end(l...), put("a"), end(l...), put("b"), end(l...), end(l...), end(f("a", "1")), end(l...), put(""))
			}
		}
	}
}

// P10.2: all stories of up to five calls, with sizes of 0 to 4.
func TestEveryStory(t *testing.T) {
	menu := []call{put(""), put("a"), put("bc"), put("0\r\n\r\n"), end(), end(f("x", "1")), end(f("x", " "))}
	framings := []api.Framing{inChunks, toClose, fixedOf(0), fixedOf(1), fixedOf(2), fixedOf(3), fixedOf(4)}
	var story func(calls []call)
	story = func(calls []call) {
		for _, framing := range framings {
			check(t, framing, calls...)
		}
		if len(calls) < 5 && !t.Failed() {
			for _, c := range menu {
				story(append(slices.Clip(calls), c))
			}
		}
	}
	story(nil)
}

// P10.2: just what is left, one byte more, and one less, in pieces of each length.
func TestFixedAtItsSize(t *testing.T) {
	data := strings.Repeat("0123456789", 10)
	for size := range 40 {
		for first := range size + 2 {
			for more := range size - min(first, size) + 2 {
				check(t, fixedOf(uint64(size)), put(data[:first]), end(), put(data[:more]), end(), put("x"), put(""), end())
			}
		}
	}
	for _, size := range []uint64{65535, 65536, 65537, 1 << 20} {
		long := strings.Repeat("x", int(size))
		check(t, fixedOf(size), put(long+"y"), put(long), put("y"), end(), end())
		check(t, fixedOf(size), put(long[1:]), put("yy"), end(), put("y"), end())
	}
}

// checkBody holds what a Chunked encoder wrote against layer 8.
func checkBody(t *testing.T, written, data string, l []api.Field) {
	t.Helper()
	b, at, e := body.Scan([]byte(written), wide)
	if e != api.OK || at != len(written) || b.Size != at || string(b.Data) != data || !slices.Equal(b.Fields, l) {
		t.Errorf("%.60q is scanned as %.60q, %q, %d, %v, wanted %.60q, %q", written, b.Data, b.Fields, at, e, data, l)
	}
	if payload := string(body.Payload([]byte(written), wide)); payload != data {
		t.Errorf("%.60q has the payload %.60q, wanted %.60q", written, payload, data)
	}
}

// P10.3
func TestChunkedBodies(t *testing.T) {
	long := strings.Repeat("0\r\n\r\n\x00abc", 1<<13)
	for _, pieces := range [][]string{nil, {""}, {"abc"}, {"", "a", "", "b", ""}, {"0\r\n\r\n"}, {"\r", "\n"}, {"3\r\nabc\r\n", "0\r\n\r\n"}, {"\x00\xff", "\x80", "x: 1\r\n"}, {long, "", long[:4096], long[:15], long[:16], long[:17]}} {
		for _, l := range [][]api.Field{nil, {f("x", "1")}, {f("a", ""), f("A", "b c"), f("Content-Length", "7")}} {
			var calls []call
			for _, piece := range pieces {
				calls = append(calls, put(piece))
			}
			// Calls that are refused write nothing.
			calls = append(calls, end(f("", "")), end(l...), put("more"), end(l...))
			checkBody(t, check(t, inChunks, calls...), strings.Join(pieces, ""), l)
		}
	}
}

// P10.3: behind each piece what was written goes on as a body, with what was given so far as its payload, and isn't one yet.
func TestChunkedBodiesThatAreNotEnded(t *testing.T) {
	e, _ := New(inChunks)
	var written []byte
	given := ""
	for _, piece := range []string{"abc", "", "0", "\r\n", "0\r\n\r\n", "0123456789abcdef", "x"} {
		b, _ := e.Put([]byte(piece))
		written = append(written, b...)
		given += piece
		if _, at, bad := body.Scan(written, wide); at != len(written) || bad != api.ErrMore {
			t.Errorf("%q: %d, %v, wanted ErrMore", written, at, bad)
		}
		if payload := string(body.Payload(written, wide)); payload != given {
			t.Errorf("%q: payload %q, wanted %q", written, payload, given)
		}
	}
}

// anyData makes bytes that look like parts of bodies.
func anyData(r *rand.Rand, most int) string {
	var b strings.Builder
	for range r.Intn(most + 1) {
		b.WriteString([]string{"0\r\n\r\n", "\r\n", "\r", "\n", "a", "\x00", "\xff", ";x", "x: 1\r\n", "f"}[r.Intn(10)])
	}
	return b.String()
}

// P10.2 and P10.3: any calls of any kind, and any pieces in chunks.
func TestAnyCalls(t *testing.T) {
	r := rand.New(rand.NewSource(10))
	fields := func() (l []api.Field) {
		for range r.Intn(4) {
			l = append(l, []api.Field{f("a", "1"), f("B-c", ""), f("!", "x y"), f("x", "\xe4")}[r.Intn(4)])
		}
		return l
	}
	for range 2000 {
		var calls []call
		data := ""
		for range r.Intn(12) {
			piece := anyData(r, 1<<r.Intn(7))
			calls = append(calls, put(piece))
			data += piece
			if r.Intn(5) == 0 {
				calls = append(calls, end(append(fields(), f("x", "1\r"))...))
			}
		}
		l := fields()
		calls = append(calls, end(l...), put("x"), end())
		checkBody(t, check(t, inChunks, calls...), data, l)
		if written := check(t, toClose, calls...); written != data {
			t.Errorf("%q was written as %q", data, written)
		}
		if written := check(t, fixedOf(uint64(len(data))), calls...); written != data {
			t.Errorf("%q was written as %q", data, written)
		}
		check(t, fixedOf(uint64(r.Intn(2*len(data)+1))), calls...)
	}
}

func overwrite(b []byte) {
	b = b[:cap(b)]
	for i := range b {
		b[i] = '!'
	}
}

// P10.1 and P10.2 with R4: what is handed in stays as it is, its spare room too.
func TestWhatIsHandedInStays(t *testing.T) {
	room := []byte("abc, and spare room")
	fields := []api.Field{f("a", "1"), f("b", "2"), f("spare", "room")}
	stays := func(what string) {
		t.Helper()
		if string(room) != "abc, and spare room" || !slices.Equal(fields, []api.Field{f("a", "1"), f("b", "2"), f("spare", "room")}) {
			t.Errorf("behind %s: %q, %q", what, room, fields)
		}
	}
	Chunk(room[:3])
	stays("Chunk")
	Last(fields[:2]...)
	stays("Last")
	for _, framing := range []api.Framing{fixedOf(6), inChunks, toClose} {
		e, _ := New(framing)
		for range 2 {
			b, _ := e.Put(room[:3])
			stays("Put")
			overwrite(b)
			stays("Put, its answer overwritten")
		}
		b, _ := e.End(fields[:2]...)
		overwrite(b)
		stays("End")
	}
}

// P10.1 and P10.2 with R4: answers share nothing with each other, nor with what was handed in and is overwritten later.
func TestAnswersAreNewMemory(t *testing.T) {
	for _, framing := range []api.Framing{fixedOf(6), inChunks, toClose} {
		e, _ := New(framing)
		piece := []byte("abc")
		first, _ := e.Put(piece)
		second, _ := e.Put(piece)
		want := string(second)
		overwrite(piece)
		if string(first) != want || string(second) != want {
			t.Errorf("%v: %q and %q, wanted %q", framing, first, second, want)
		}
		overwrite(first)
		if string(second) != want {
			t.Errorf("%v: %q, wanted %q", framing, second, want)
		}
		l := []api.Field{f("a", "1")}
		last, _ := e.End(l...)
		l[0] = f("over", "written")
		overwrite(second)
		if framing == inChunks && string(last) != "0\r\na: 1\r\n\r\n" {
			t.Errorf("%q", last)
		}
	}
	a, _ := Last(f("a", "1"))
	b, _ := Last(f("a", "1"))
	c, d := Chunk([]byte("abc")), Chunk([]byte("abc"))
	overwrite(a)
	overwrite(c)
	if string(b) != "0\r\na: 1\r\n\r\n" || string(d) != "3\r\nabc\r\n" {
		t.Errorf("%q, %q", b, d)
	}
}

// P10.2 with R5: asking changes nothing, and what other encoders are given makes no difference.
func TestEncodersAreApart(t *testing.T) {
	framings := []api.Framing{fixedOf(3), fixedOf(3), inChunks, inChunks, toClose, fixedOf(9), toClose}
	calls := []call{put("a"), put("bc"), put("d"), end(f("x", "")), put("e"), end(f("x", "1")), end()}
	var encoders []*Encoder
	var models []*model
	for _, framing := range framings {
		e, _ := New(framing)
		encoders, models = append(encoders, e), append(models, &model{framing: framing})
	}
	for step := range len(calls) + len(framings) {
		for i := range framings {
			if at := step - i; at >= 0 && at < len(calls) {
				calls[at].make(t, encoders[i], models[i])
			}
			for range 2 {
				if encoders[i].Left() != models[i].left() || encoders[i].Given() != models[i].given {
					t.Errorf("step %d, %v: left %d, given %d, wanted %d, %d", step, framings[i], encoders[i].Left(), encoders[i].Given(), models[i].left(), models[i].given)
				}
			}
		}
	}
}

// R1: several goroutines at once, with an encoder each, and the functions that have no object.
func TestSeveralGoroutines(t *testing.T) {
	var wait sync.WaitGroup
	for i := range 8 {
		wait.Go(func() {
			for n := range 50 {
				piece := strings.Repeat("x", i*n)
				checkBody(t, check(t, inChunks, put(piece), put("y"), end(f("a", "1"))), piece+"y", []api.Field{f("a", "1")})
				if b := Chunk([]byte(piece)); !bytes.Equal(b, []byte(wantChunk(piece))) || len(b)-len(piece) != Cost(len(piece)) {
					t.Errorf("%q", b)
				}
			}
		})
	}
	wait.Wait()
}
