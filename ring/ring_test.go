package ring

import (
	"bytes"
	"iter"
	"math"
	"math/rand"
	"slices"
	"strings"
	"testing"

	"catchpit/api"
)

// ringAt tells a ring of n bytes that has its head at the place head and holds text.
func ringAt(t *testing.T, n, head int, text string) *Ring {
	t.Helper()
	r, e := New(n)
	if e != api.OK {
		t.Fatalf("New(%d): %v", n, e)
	}
	if r.Write(make([]byte, head)) != head || r.Drop(head) != head || r.Write([]byte(text)) != len(text) {
		t.Fatalf("no ring of %d with %q at %d", n, text, head)
	}
	return r
}

// pair is what an iterator tells at one step.
type pair struct {
	place int
	c     byte
}

// firstPairs asks it to stop behind n pairs; it calls the iterator by hand, so that one that goes on all the same is seen.
func firstPairs(it iter.Seq2[int, byte], n int) []pair {
	var got []pair
	it(func(place int, c byte) bool {
		got = append(got, pair{place, c})
		return len(got) < n
	})
	return got
}

// allPairs goes through all of it.
func allPairs(it iter.Seq2[int, byte]) []pair { return firstPairs(it, math.MaxInt) }

// model is a ring told in the plainest way: a line of bytes, and how many have left it.
type model struct {
	size, gone int
	line       []byte
}

func (m *model) write(b []byte) int {
	n := 0
	for _, c := range b {
		if len(m.line) < m.size {
			m.line = append(m.line, c)
			n++
		}
	}
	return n
}

func (m *model) read(n int) []byte {
	var b []byte
	for len(m.line) > 0 && len(b) < n {
		b = append(b, m.line[0])
		m.line = m.line[1:]
		m.gone++
	}
	return b
}

func (m *model) pairs() []pair {
	var p []pair
	for i, c := range m.line {
		p = append(p, pair{(m.gone + i) % m.size, c})
	}
	return p
}

// spans parts the line where a place is less than the one ahead of it.
func (m *model) spans() (a, b []byte) {
	p := m.pairs()
	for i, x := range p {
		if x.place >= p[0].place {
			a = append(a, m.line[i])
		} else {
			b = append(b, m.line[i])
		}
	}
	return a, b
}

// same holds all that can be seen of a ring against the model.
func same(t *testing.T, r *Ring, m *model) {
	t.Helper()
	if r.Len() != len(m.line) || r.Free() != m.size-len(m.line) || r.Head() != m.gone%m.size {
		t.Fatalf("Len %d, Free %d, Head %d: want %d, %d, %d", r.Len(), r.Free(), r.Head(), len(m.line), m.size-len(m.line), m.gone%m.size)
	}
	if r.Len()+r.Free() != m.size {
		t.Fatalf("Len %d and Free %d aren't %d", r.Len(), r.Free(), m.size)
	}
	a, b := r.Spans()
	if wa, wb := m.spans(); !bytes.Equal(a, wa) || !bytes.Equal(b, wb) {
		t.Fatalf("Spans %q, %q: want %q, %q", a, b, wa, wb)
	}
	if got, want := allPairs(r.All()), m.pairs(); !slices.Equal(got, want) {
		t.Fatalf("All %v: want %v", got, want)
	}
	if got := r.Peek(m.size); !bytes.Equal(got, m.line) {
		t.Fatalf("Peek %q: want %q", got, m.line)
	}
}

// P3.1
func TestNewTakesSizesFromOneToTheGreatest(t *testing.T) {
	for _, n := range []int{1, 2, 3, 1000, 65535, 65536} {
		r, e := New(n)
		if e != api.OK || r == nil {
			t.Fatalf("New(%d) = %v, %v", n, r, e)
		}
		if r.Len() != 0 || r.Free() != n || r.Head() != 0 {
			t.Errorf("New(%d): Len %d, Free %d, Head %d", n, r.Len(), r.Free(), r.Head())
		}
	}
}

// P3.1
func TestNewRefusesOtherSizes(t *testing.T) {
	for _, n := range []int{0, -1, -65536, 65537, 1 << 31, math.MaxInt, math.MinInt} {
		if r, e := New(n); r != nil || e != api.ErrArg {
			t.Errorf("New(%d) = %v, %v", n, r, e)
		}
	}
}

// P3.1
func TestRingsAreApart(t *testing.T) {
	a, b := ringAt(t, 4, 0, "abc"), ringAt(t, 4, 0, "")
	if b.Len() != 0 || b.Write([]byte("xyz")) != 3 || string(a.Read(4)) != "abc" || string(b.Read(4)) != "xyz" {
		t.Error("one ring is told by the other")
	}
}

// P3.1, P3.2
func TestGreatestRingIsFilledToItsLastPlace(t *testing.T) {
	for _, n := range []int{1, 65535, 65536} {
		text := make([]byte, n+1)
		rand.New(rand.NewSource(int64(n))).Read(text)
		for _, head := range []int{0, n / 2, n - 1} {
			r := ringAt(t, n, head, "")
			if got := r.Write(text); got != n || r.Free() != 0 || r.Len() != n {
				t.Fatalf("size %d, head %d: Write %d, Free %d", n, head, got, r.Free())
			}
			a, b := r.Spans()
			if len(a) != n-head || len(b) != head {
				t.Errorf("size %d, head %d: spans of %d and %d", n, head, len(a), len(b))
			}
			if got := r.Read(n + 1); !bytes.Equal(got, text[:n]) || r.Head() != head {
				t.Errorf("size %d, head %d: other bytes, or head %d", n, head, r.Head())
			}
		}
	}
}

// The chapter's example: P3.2, P3.3
func TestExample(t *testing.T) {
	r := ringAt(t, 3, 0, "")
	if n := r.Write([]byte("abcd")); n != 3 {
		t.Errorf("Write abcd: %d", n)
	}
	if b := r.Read(2); string(b) != "ab" {
		t.Errorf("Read 2: %q", b)
	}
	if n := r.Write([]byte("de")); n != 2 {
		t.Errorf("Write de: %d", n)
	}
	if a, b := r.Spans(); string(a) != "c" || string(b) != "de" || r.Head() != 2 {
		t.Errorf("Spans %q, %q, Head %d", a, b, r.Head())
	}
}

// P3.2
func TestWriteTakesWhatThereIsRoomFor(t *testing.T) {
	for _, c := range []struct {
		size, head int
		held, text string
		n          int
		want       string
	}{
		{4, 0, "", "", 0, ""},
		{4, 0, "ab", "", 0, "ab"},
		{4, 0, "", "a", 1, "a"},
		{4, 0, "ab", "cd", 2, "abcd"},
		{4, 0, "ab", "cde", 2, "abcd"},
		{4, 0, "abcd", "", 0, "abcd"},
		{4, 0, "abcd", "e", 0, "abcd"},
		{4, 2, "", "wxyz", 4, "wxyz"},
		{4, 2, "a", "bcdefgh", 3, "abcd"},
		{4, 2, "ab", "c", 1, "abc"},
		{4, 2, "abc", "de", 1, "abcd"},
		{4, 3, "", "ab", 2, "ab"},
		{4, 3, "abcd", "e", 0, "abcd"},
		{1, 0, "", "ab", 1, "a"},
		{1, 0, "a", "b", 0, "a"},
	} {
		r := ringAt(t, c.size, c.head, c.held)
		n := r.Write([]byte(c.text))
		if got := r.Peek(9); n != c.n || string(got) != c.want || r.Head() != c.head {
			t.Errorf("%d, %d, %q: Write(%q) = %d, then %q with head %d", c.size, c.head, c.held, c.text, n, got, r.Head())
		}
	}
	r := ringAt(t, 4, 1, "ab")
	if n := r.Write(nil); n != 0 || string(r.Peek(9)) != "ab" {
		t.Errorf("Write(nil) = %d", n)
	}
}

// takings are what Read, Peek and Drop are to take of rings of 4 bytes.
var takings = []struct {
	head int
	held string
	n    int
	want string
	next int // the head behind it
}{
	{0, "", 0, "", 0},
	{0, "", 1, "", 0},
	{3, "", math.MaxInt, "", 3},
	{3, "", math.MinInt, "", 3},
	{0, "abc", 0, "", 0},
	{1, "abc", -1, "", 1},
	{2, "abc", math.MinInt, "", 2},
	{0, "abc", 1, "a", 1},
	{0, "abc", 2, "ab", 2},
	{0, "abc", 3, "abc", 3},
	{0, "abc", 4, "abc", 3},
	{0, "abc", math.MaxInt, "abc", 3},
	{0, "abcd", 4, "abcd", 0},
	{1, "abc", 3, "abc", 0},
	{2, "abcd", 1, "a", 3},
	{2, "abcd", 2, "ab", 0},
	{2, "abcd", 3, "abc", 1},
	{2, "abcd", 4, "abcd", 2},
	{2, "abcd", 5, "abcd", 2},
	{3, "abc", 65537, "abc", 2},
	{3, "abc", 1, "a", 0},
}

// P3.2
func TestReadTakesTheFirstBytes(t *testing.T) {
	for _, c := range takings {
		r := ringAt(t, 4, c.head, c.held)
		b := r.Read(c.n)
		if string(b) != c.want || r.Head() != c.next || string(r.Peek(9)) != c.held[len(c.want):] {
			t.Errorf("%d, %q: Read(%d) = %q, then %q with head %d", c.head, c.held, c.n, b, r.Peek(9), r.Head())
		}
	}
}

// P3.2
func TestPeekKeepsWhatItTells(t *testing.T) {
	for _, c := range takings {
		r := ringAt(t, 4, c.head, c.held)
		for range 2 {
			b := r.Peek(c.n)
			if string(b) != c.want || r.Head() != c.head || r.Len() != len(c.held) || r.Free() != 4-len(c.held) {
				t.Errorf("%d, %q: Peek(%d) = %q, then head %d and %d held", c.head, c.held, c.n, b, r.Head(), r.Len())
			}
		}
		if b := r.Read(9); string(b) != c.held {
			t.Errorf("%d, %q: Peek(%d), then %q", c.head, c.held, c.n, b)
		}
	}
}

// P3.2
func TestDropTellsHowMany(t *testing.T) {
	for _, c := range takings {
		r := ringAt(t, 4, c.head, c.held)
		n := r.Drop(c.n)
		if n != len(c.want) || r.Head() != c.next || string(r.Peek(9)) != c.held[len(c.want):] {
			t.Errorf("%d, %q: Drop(%d) = %d, then %q with head %d", c.head, c.held, c.n, n, r.Peek(9), r.Head())
		}
	}
}

// P3.3
func TestSpansAreOneOrTwo(t *testing.T) {
	for _, c := range []struct {
		head int
		held string
		a, b string
	}{
		{0, "", "", ""},
		{3, "", "", ""},
		{0, "a", "a", ""},
		{0, "abcd", "abcd", ""},
		{2, "ab", "ab", ""},
		{2, "abc", "ab", "c"},
		{2, "abcd", "ab", "cd"},
		{3, "a", "a", ""},
		{3, "abcd", "a", "bcd"},
	} {
		r := ringAt(t, 4, c.head, c.held)
		for range 2 {
			if a, b := r.Spans(); string(a) != c.a || string(b) != c.b {
				t.Errorf("%d, %q: Spans %q, %q", c.head, c.held, a, b)
			}
		}
	}
}

// P3.3
func TestAllTellsPlacesAndBytes(t *testing.T) {
	for _, c := range []struct {
		head   int
		held   string
		places []int
	}{
		{0, "", nil},
		{3, "", nil},
		{0, "ab", []int{0, 1}},
		{1, "abc", []int{1, 2, 3}},
		{0, "abcd", []int{0, 1, 2, 3}},
		{2, "abcd", []int{2, 3, 0, 1}},
		{3, "ab", []int{3, 0}},
	} {
		r := ringAt(t, 4, c.head, c.held)
		var places []int
		var text []byte
		for place, b := range r.All() {
			places = append(places, place)
			text = append(text, b)
		}
		if !slices.Equal(places, c.places) || string(text) != c.held {
			t.Errorf("%d, %q: All %v, %q", c.head, c.held, places, text)
		}
		if r.Len() != len(c.held) || r.Head() != c.head {
			t.Errorf("%d, %q: All changed the ring", c.head, c.held)
		}
	}
}

// P3.3
func TestAllStopsWhenItIsAskedTo(t *testing.T) {
	for _, head := range []int{0, 2} {
		r := ringAt(t, 4, head, "abcd")
		whole := allPairs(r.All())
		for n := 1; n <= 4; n++ {
			if got := firstPairs(r.All(), n); !slices.Equal(got, whole[:n]) {
				t.Errorf("head %d: stopped behind %d: %v", head, n, got)
			}
		}
	}
}

// P3.3, R6
func TestAllBeginsAnewEachTime(t *testing.T) {
	r := ringAt(t, 4, 3, "abc")
	it := r.All()
	want := []pair{{3, 'a'}, {0, 'b'}, {1, 'c'}}
	for range 2 {
		if got := firstPairs(it, 1); !slices.Equal(got, want[:1]) {
			t.Errorf("stopped at once: %v", got)
		}
		if got := allPairs(it); !slices.Equal(got, want) {
			t.Errorf("gone through: %v", got)
		}
	}
}

// P3.3, R6
func TestAllTellsWhatThereIsWhenItIsGoneThrough(t *testing.T) {
	r := ringAt(t, 3, 0, "")
	it := r.All()
	if it == nil {
		t.Fatal("no iterator")
	}
	if got := allPairs(it); len(got) != 0 {
		t.Errorf("of an empty ring: %v", got)
	}
	r.Write([]byte("abc"))
	r.Drop(2)
	r.Write([]byte("d"))
	if got, want := allPairs(it), []pair{{2, 'c'}, {0, 'd'}}; !slices.Equal(got, want) {
		t.Errorf("%v, want %v", got, want)
	}
	r.Read(9)
	if got := allPairs(it); len(got) != 0 {
		t.Errorf("of an emptied ring: %v", got)
	}
}

// P3.3, R6
func TestAllIsNotDisturbedByTheLoopThatAsks(t *testing.T) {
	r := ringAt(t, 4, 2, "abcd")
	var got []pair
	for place, c := range r.All() {
		got = append(got, pair{place, c})
		r.Drop(2)
		r.Write([]byte("xy"))
	}
	if want := []pair{{2, 'a'}, {3, 'b'}, {0, 'c'}, {1, 'd'}}; !slices.Equal(got, want) {
		t.Errorf("%v, want %v", got, want)
	}
}

// smear writes into all of b, its spare room too.
func smear(b []byte) {
	b = b[:cap(b)]
	for i := range b {
		b[i] = '#'
	}
}

// R4 for P3.2
func TestWhatIsHandedInIsNeitherKeptNorChanged(t *testing.T) {
	for _, head := range []int{0, 2} {
		r := ringAt(t, 4, head, "a")
		whole := []byte("bcdefgh")
		b := whole[:2]
		if r.Write(b) != 2 || string(whole) != "bcdefgh" {
			t.Errorf("head %d: Write left %q", head, whole)
		}
		smear(b)
		if got := r.Peek(9); string(got) != "abc" {
			t.Errorf("head %d: what was handed in is kept: %q", head, got)
		}
		if r.Write([]byte("d")) != 1 || r.Drop(9) != 4 || r.Write([]byte("wxyz")) != 4 || string(b) != "##" {
			t.Errorf("head %d: what was handed in is written into: %q", head, b)
		}
	}
}

// R4 for P3.2, P3.3
func TestWhatIsToldIsNewMemory(t *testing.T) {
	for _, head := range []int{0, 2} {
		for _, held := range []string{"", "ab", "abc", "abcd"} {
			r := ringAt(t, 4, head, held)
			smear(r.Peek(2))
			smear(r.Peek(9))
			smear(r.Peek(-1))
			a, b := r.Spans()
			rest := string(b)
			smear(a)
			if string(b) != rest {
				t.Errorf("%d, %q: the spans share memory", head, held)
			}
			smear(b)
			smear(r.Read(1))
			if got, want := string(r.Peek(9)), held[min(1, len(held)):]; got != want {
				t.Errorf("%d, %q: written into what was told: %q, want %q", head, held, got, want)
			}
		}
	}
}

// R4 for P3.2, P3.3
func TestWhatIsToldStays(t *testing.T) {
	r := ringAt(t, 4, 2, "abcd")
	peeked := r.Peek(4)
	a, b := r.Spans()
	again := r.Peek(4)
	smear(again)
	read := r.Read(4)
	r.Write([]byte("wxyz"))
	if string(peeked) != "abcd" || string(a) != "ab" || string(b) != "cd" || string(read) != "abcd" {
		t.Errorf("%q, %q, %q, %q", peeked, a, b, read)
	}
}

// act does one thing to both, and holds what they tell against each other.
func act(t *testing.T, r *Ring, m *model, kind, n int, text []byte) {
	t.Helper()
	switch kind {
	case 0:
		if got, want := r.Write(text[:n]), m.write(text[:n]); got != want {
			t.Fatalf("Write of %d: %d, want %d", n, got, want)
		}
	case 1:
		if got, want := r.Read(n), m.read(n); !bytes.Equal(got, want) {
			t.Fatalf("Read(%d) = %q, want %q", n, got, want)
		}
	default:
		if got, want := r.Drop(n), len(m.read(n)); got != want {
			t.Fatalf("Drop(%d) = %d, want %d", n, got, want)
		}
	}
	same(t, r, m)
}

// P3.2, P3.3, P3.4: all ways of doing four things to small rings.
func TestEveryShortStory(t *testing.T) {
	const alphabet = "abcdefghijklmnopqrstuvwxyz"
	for size := 1; size <= 3; size++ {
		kinds := 3 * (size + 2)
		for story := range kinds * kinds * kinds * kinds {
			r := ringAt(t, size, 0, "")
			m := &model{size: size}
			for step, left := 0, story; step < 4; step, left = step+1, left/kinds {
				what := left % kinds
				act(t, r, m, what%3, what/3, []byte(alphabet[5*step:]))
			}
		}
	}
}

// P3.2, P3.3, P3.4
func TestLongStories(t *testing.T) {
	rnd := rand.New(rand.NewSource(3))
	for _, size := range []int{1, 2, 5, 64, 257} {
		r := ringAt(t, size, 0, "")
		m := &model{size: size}
		text := make([]byte, size+2)
		for range 400 {
			rnd.Read(text)
			act(t, r, m, rnd.Intn(3), rnd.Intn(size+2), text)
		}
	}
}

// P3.4
func TestBytesComeOutAsTheyWentIn(t *testing.T) {
	text := strings.Repeat("The quick brown fox jumps over the lazy dog. ", 50)
	for _, size := range []int{1, 2, 3, 7, 44, 45, 46, 3000} {
		for piece := 1; piece <= 9; piece++ {
			r := ringAt(t, size, 0, "")
			in, out := text, ""
			for in != "" || r.Len() > 0 {
				in = in[r.Write([]byte(in)):]
				out += string(r.Read(piece))
				if r.Len()+r.Free() != size || r.Head() != len(out)%size {
					t.Fatalf("size %d: Len %d, Free %d, Head %d", size, r.Len(), r.Free(), r.Head())
				}
			}
			if out != text {
				t.Errorf("size %d by %d: other bytes", size, piece)
			}
		}
	}
}
