package wire

import (
	"bytes"
	"fmt"
	"math"
	"math/rand"
	"slices"
	"strings"
	"sync"
	"testing"

	"catchpit/api"
)

// sourceModel is what the chapter's words say of a source: what is left of each piece that wasn't handed out in full, in order.
type sourceModel struct {
	rest  []string
	end   int
	reads int
	shut  bool
}

func (m *sourceModel) read(n int) (string, api.Errno) {
	if n < 1 {
		return "", api.ErrArg
	}
	if m.shut {
		return "", api.ErrShut
	}
	if len(m.rest) == 0 {
		return "", []api.Errno{api.OK, api.ErrNone, api.ErrReset}[m.end]
	}
	piece := m.rest[0]
	if n < len(piece) {
		m.rest[0] = piece[n:]
		m.reads += n
		return piece[:n], api.OK
	}
	m.rest = m.rest[1:]
	m.reads += len(piece)
	return piece, api.OK
}

// sourceCall is one call of a source: Shut, or Read of n.
type sourceCall struct {
	shut bool
	n    int
}

func (c sourceCall) String() string {
	if c.shut {
		return "Shut()"
	}
	return fmt.Sprintf("Read(%d)", c.n)
}

func read(n int) sourceCall { return sourceCall{n: n} }

var shutting = sourceCall{shut: true}

// of makes the call of a source.
func (c sourceCall) of(s *Source) ([]byte, api.Errno) {
	if c.shut {
		s.Shut()
		return nil, api.OK
	}
	return s.Read(c.n)
}

// ofModel makes the call of a model.
func (c sourceCall) ofModel(m *sourceModel) (string, api.Errno) {
	if c.shut {
		m.shut = true
		return "", api.OK
	}
	return m.read(c.n)
}

// make makes the call of both, holds what they answer, and what they tell behind it, against each other, and tells what the source answered.
func (c sourceCall) make(t *testing.T, s *Source, m *sourceModel) ([]byte, api.Errno) {
	t.Helper()
	behind := fmt.Sprintf("%+v", *m)
	got, e := c.of(s)
	want, wantE := c.ofModel(m)
	if string(got) != want || e != wantE || e != api.OK && len(got) != 0 {
		t.Errorf("%s: %v = %q, %v, wanted %q, %v", behind, c, got, e, want, wantE)
	}
	if s.Reads() != m.reads {
		t.Errorf("%s, %v: %d bytes were read, wanted %d", behind, c, s.Reads(), m.reads)
	}
	return got, e
}

// in tells an inflow of the pieces.
func in(end int, pieces ...string) In {
	i := In{End: end}
	for _, piece := range pieces {
		i.Pieces = append(i.Pieces, []byte(piece))
	}
	return i
}

// bothSources makes a new source, and the model of it.
func bothSources(t *testing.T, i In) (*Source, *sourceModel) {
	t.Helper()
	s, e := NewSource(i)
	if s == nil || e != api.OK {
		t.Fatalf("NewSource(%v) = %v, %v", i, s, e)
	}
	m := &sourceModel{end: i.End}
	for _, piece := range i.Pieces {
		m.rest = append(m.rest, string(piece))
	}
	if s.Reads() != 0 {
		t.Errorf("NewSource(%v): %d bytes were read", i, s.Reads())
	}
	return s, m
}

// checkSource makes the calls of a new source.
func checkSource(t *testing.T, i In, calls ...sourceCall) (*Source, *sourceModel) {
	t.Helper()
	s, m := bothSources(t, i)
	for _, c := range calls {
		c.make(t, s, m)
	}
	return s, m
}

// ends are the three ends, by the chapter's numbers.
func ends() []int { return []int{0, 1, 2} }

// wrongEnds are numbers that are no ends.
func wrongEnds() []int {
	return []int{-1, 3, 4, -2, 255, 256, 257, 1 << 32, 1<<32 + 1, 1<<32 + 2, -1 << 32, math.MaxInt, math.MinInt, math.MinInt + 1, math.MinInt + 2}
}

// belowOne are numbers that a Read is refused.
func belowOne() []int {
	return []int{0, -1, -2, -3, -255, -256, -1 << 32, -1<<32 + 1, math.MinInt, math.MinInt + 1}
}

// P16.1: the constants are the chapter's numbers.
func TestEnds(t *testing.T) {
	if Silent != 0 || Closed != 1 || Reset != 2 || Stuck != 0 || Free != 1 {
		t.Error(Silent, Closed, Reset, Stuck, Free)
	}
}

// P16.1: an inflow is right if its end is, whatever its pieces are.
func TestNewSource(t *testing.T) {
	for _, pieces := range [][][]byte{nil, {}, {nil}, {{}}, {[]byte("a")}, {nil, []byte("ab"), {}, nil}} {
		for _, end := range ends() {
			bothSources(t, In{pieces, end})
		}
		for _, end := range wrongEnds() {
			if s, e := NewSource(In{pieces, end}); s != nil || e != api.ErrArg {
				t.Errorf("NewSource(%q, %d) = %v, %v, wanted ErrArg", pieces, end, s, e)
			}
		}
	}
}

// sourceStep is one call, with what it answers, and how many bytes were read behind it.
type sourceStep struct {
	sourceCall
	b     string
	e     api.Errno
	reads int
}

// P16.2: stories written out.
func TestSourceStories(t *testing.T) {
	for _, story := range []struct {
		in    In
		steps []sourceStep
	}{
		// the chapter's example
		{in(Closed, "ab", "", "c"), []sourceStep{
			{read(1), "a", api.OK, 1},
			{read(9), "b", api.OK, 2},
			{read(9), "", api.OK, 2},
			{read(9), "c", api.OK, 3},
			{read(9), "", api.ErrNone, 3},
			{read(9), "", api.ErrNone, 3},
		}},
		// no pieces, at each end, twice
		{in(Silent), []sourceStep{{read(1), "", api.OK, 0}, {read(math.MaxInt), "", api.OK, 0}}},
		{in(Closed), []sourceStep{{read(1), "", api.ErrNone, 0}, {read(math.MaxInt), "", api.ErrNone, 0}}},
		{in(Reset), []sourceStep{{read(1), "", api.ErrReset, 0}, {read(math.MaxInt), "", api.ErrReset, 0}}},
		// empty pieces alone, each of them handed out
		{in(Closed, ""), []sourceStep{{read(1), "", api.OK, 0}, {read(1), "", api.ErrNone, 0}, {read(1), "", api.ErrNone, 0}}},
		{in(Reset, "", ""), []sourceStep{{read(1), "", api.OK, 0}, {read(5), "", api.OK, 0}, {read(1), "", api.ErrReset, 0}}},
		// empty pieces first, last, and two behind one another
		{in(Reset, "", "ab", "", "", "c", ""), []sourceStep{
			{read(5), "", api.OK, 0},
			{read(5), "ab", api.OK, 2},
			{read(5), "", api.OK, 2},
			{read(5), "", api.OK, 2},
			{read(5), "c", api.OK, 3},
			{read(5), "", api.OK, 3},
			{read(5), "", api.ErrReset, 3},
			{read(5), "", api.ErrReset, 3},
		}},
		// just what is left, one less and one more: no nothing behind a piece that was handed out in full
		{in(Silent, "abc", "def", "ghi", "j"), []sourceStep{
			{read(3), "abc", api.OK, 3},
			{read(2), "de", api.OK, 5},
			{read(1), "f", api.OK, 6},
			{read(1), "g", api.OK, 7},
			{read(3), "hi", api.OK, 9},
			{read(math.MaxInt), "j", api.OK, 10},
			{read(1), "", api.OK, 10},
			{read(1), "", api.OK, 10},
		}},
		// below 1, which uses nothing
		{in(Closed, "ab", ""), []sourceStep{
			{read(0), "", api.ErrArg, 0},
			{read(1), "a", api.OK, 1},
			{read(-1), "", api.ErrArg, 1},
			{read(1), "b", api.OK, 2},
			{read(math.MinInt), "", api.ErrArg, 2},
			{read(1), "", api.OK, 2},
			{read(0), "", api.ErrArg, 2},
			{read(1), "", api.ErrNone, 2},
			{read(0), "", api.ErrArg, 2},
		}},
		// shut ahead of all, twice; below 1 is told ahead of it
		{in(Closed, "ab"), []sourceStep{
			{shutting, "", api.OK, 0},
			{read(1), "", api.ErrShut, 0},
			{read(0), "", api.ErrArg, 0},
			{shutting, "", api.OK, 0},
			{read(1), "", api.ErrShut, 0},
			{read(math.MinInt), "", api.ErrArg, 0},
		}},
		// shut in the midst of a piece
		{in(Reset, "ab", "c"), []sourceStep{
			{read(1), "a", api.OK, 1},
			{shutting, "", api.OK, 1},
			{read(1), "", api.ErrShut, 1},
			{read(1), "", api.ErrShut, 1},
			{read(-1), "", api.ErrArg, 1},
		}},
		// shut ahead of an empty piece
		{in(Silent, "a", "", "c"), []sourceStep{
			{read(1), "a", api.OK, 1},
			{shutting, "", api.OK, 1},
			{read(1), "", api.ErrShut, 1},
		}},
		// shut behind the end
		{in(Closed, "a"), []sourceStep{
			{read(1), "a", api.OK, 1},
			{read(1), "", api.ErrNone, 1},
			{shutting, "", api.OK, 1},
			{read(1), "", api.ErrShut, 1},
			{read(0), "", api.ErrArg, 1},
		}},
	} {
		s, m := bothSources(t, story.in)
		for i, step := range story.steps {
			b, e := step.make(t, s, m)
			if string(b) != step.b || e != step.e || s.Reads() != step.reads {
				t.Errorf("%v, step %d, %v = %q, %v, %d, wanted %q, %v, %d", story.in, i, step.sourceCall, b, e, s.Reads(), step.b, step.e, step.reads)
			}
		}
	}
}

// P16.2: Read's edges, of a piece that wasn't begun, and of one that was, with and without empty pieces around it.
func TestRead(t *testing.T) {
	piece := strings.Repeat("0123456789", 3)
	for _, end := range ends() {
		for _, pieces := range [][]string{{piece}, {"", piece}, {piece, ""}, {"", piece, "", "z"}, {"a", piece, "b"}} {
			at := slices.Index(pieces, piece)
			for begun := range len(piece) {
				left := len(piece) - begun
				for _, n := range []int{1, 2, left - 1, left, left + 1, 2 * left, 1 << 31, 1 << 32, 1<<32 + 1, math.MaxInt - 1, math.MaxInt} {
					s, m := bothSources(t, in(end, pieces...))
					for range at {
						read(1).make(t, s, m)
					}
					if begun > 0 {
						read(begun).make(t, s, m)
					}
					for _, wrong := range belowOne() {
						read(wrong).make(t, s, m)
					}
					b, e := read(n).make(t, s, m)
					if want := piece[begun:][:max(0, min(n, left))]; string(b) != want || (e == api.OK) != (n > 0) {
						t.Errorf("begun %d, Read(%d) = %q, %v, wanted %q", begun, n, b, e, want)
					}
					for range 4 {
						read(math.MaxInt).make(t, s, m)
					}
				}
			}
		}
	}
}

// P16.2: a source that was shut, at each place, hands out nothing more.
func TestShut(t *testing.T) {
	for _, end := range ends() {
		for _, pieces := range [][]string{nil, {""}, {"abc"}, {"abc", "", "de"}, {"", "", "f"}} {
			for at := range 10 {
				s, m := bothSources(t, in(end, pieces...))
				for range at {
					read(1).make(t, s, m)
				}
				for range 2 {
					shutting.make(t, s, m)
					for _, n := range []int{1, 2, 1 << 32, math.MaxInt} {
						if b, e := s.Read(n); len(b) != 0 || e != api.ErrShut {
							t.Errorf("%q, shut behind %d: Read(%d) = %q, %v", pieces, at, n, b, e)
						}
					}
					for _, n := range belowOne() {
						if b, e := s.Read(n); len(b) != 0 || e != api.ErrArg {
							t.Errorf("%q, shut behind %d: Read(%d) = %q, %v", pieces, at, n, b, e)
						}
					}
				}
				read(1).make(t, s, m)
			}
		}
	}
}

// P16.4: what comes out are the pieces' bytes, in order, whatever the pieces and the Reads.
func TestEveryCut(t *testing.T) {
	for _, end := range ends() {
		for _, pieces := range parts("abcde", 3) {
			for _, reads := range [][]int{{1}, {2}, {3}, {9}, {1, 2}, {2, 1}, {1, 3}, {1, 1, 0, 2}, {-1, 9}} {
				s, m := bothSources(t, in(end, pieces...))
				var all []byte
				for i := 0; i < 30; i++ {
					b, _ := read(reads[i%len(reads)]).make(t, s, m)
					all = append(all, b...)
				}
				if string(all) != "abcde" || s.Reads() != 5 || len(m.rest) != 0 {
					t.Errorf("%q, read by %v: %q, %d", pieces, reads, all, s.Reads())
				}
			}
		}
	}
}

// parts tells the ways to cut s into pieces, empty ones among them, behind at most so many of which there is a cut.
func parts(s string, cuts int) [][]string {
	all := [][]string{{s}}
	if cuts == 0 {
		return all
	}
	for at := range len(s) + 1 {
		for _, others := range parts(s[at:], cuts-1) {
			all = append(all, append([]string{s[:at]}, others...))
		}
	}
	return all
}

// P16.2: every story of up to four calls of a menu, over several inflows.
func TestEverySourceStory(t *testing.T) {
	menu := []sourceCall{read(0), read(1), read(2), read(3), shutting, read(-1)}
	for _, end := range ends() {
		for _, pieces := range [][]string{nil, {""}, {"ab"}, {"a", "b"}, {"ab", "", "cd"}, {"", "abc"}, {"abc", ""}, {"", "", "a", "", ""}} {
			var tell func(calls []sourceCall)
			tell = func(calls []sourceCall) {
				if len(calls) == 4 {
					checkSource(t, in(end, pieces...), calls...)
					return
				}
				for _, c := range menu {
					tell(append(calls[:len(calls):len(calls)], c))
				}
			}
			tell(nil)
		}
	}
}

// anyIn tells an inflow.
func anyIn(random *rand.Rand) In {
	i := In{End: random.Intn(3)}
	for range random.Intn(8) {
		piece := make([]byte, random.Intn(4)*random.Intn(6))
		random.Read(piece)
		i.Pieces = append(i.Pieces, piece)
	}
	return i
}

// anySourceCall tells a call, wrong ones among them, of which few shut.
func anySourceCall(random *rand.Rand) sourceCall {
	switch random.Intn(40) {
	case 0:
		return shutting
	case 1, 2:
		return read(belowOne()[random.Intn(len(belowOne()))])
	case 3:
		return read(math.MaxInt - random.Intn(3))
	}
	return read(1 + random.Intn(8))
}

// P16.2: long stories of any calls.
func TestAnySourceStories(t *testing.T) {
	random := rand.New(rand.NewSource(162))
	for range 6000 {
		s, m := bothSources(t, anyIn(random))
		for range random.Intn(40) {
			anySourceCall(random).make(t, s, m)
		}
		if t.Failed() {
			return
		}
	}
}

// P16.4: a great inflow of many pieces, each byte among them.
func TestGreatInflow(t *testing.T) {
	random := rand.New(rand.NewSource(164))
	var i In
	var want []byte
	for range 3000 {
		piece := make([]byte, random.Intn(200))
		random.Read(piece)
		i.Pieces = append(i.Pieces, piece)
		want = append(want, piece...)
	}
	i.End = Closed
	s, _ := bothSources(t, i)
	var got []byte
	var e api.Errno
	for e == api.OK {
		var b []byte
		b, e = s.Read(1 + random.Intn(120))
		got = append(got, b...)
	}
	if !bytes.Equal(got, want) || s.Reads() != len(want) || e != api.ErrNone {
		t.Errorf("%d bytes came out, wanted %d, behind them %v", len(got), len(want), e)
	}
}

// overwrite writes over b and its spare room.
func overwrite(b []byte) {
	b = b[:cap(b)]
	for i := range b {
		b[i] = '#'
	}
}

// P16.1 and P16.2 with R4: what is written over the pieces, the list of them, and what was told, makes no difference; none of them is changed.
func TestSourceSharesNothing(t *testing.T) {
	for n := 1; n < 9; n++ {
		room := []byte("abcdefghijklmnop")
		pieces := [][]byte{room[0:3], nil, room[3:8], room[8:8], room[9:10], []byte("last")}
		i := In{pieces[:5], Closed}
		s, m := bothSources(t, i)
		for range 2 {
			var answers [][]byte
			var wants []string
			for range 3 {
				b, _ := read(n).make(t, s, m)
				answers, wants = append(answers, b), append(wants, string(b))
			}
			if string(room) != "abcdefghijklmnop" && string(room) != strings.Repeat("#", 16) || string(pieces[5]) != "last" {
				t.Errorf("Read(%d) changed what was handed in: %q, %q", n, room, pieces)
			}
			for k, b := range answers {
				if string(b) != wants[k] {
					t.Errorf("answer %d of Read(%d) is %q, was %q", k, n, b, wants[k])
				}
				overwrite(b)
			}
			overwrite(room)
			for k := range i.Pieces {
				i.Pieces[k] = []byte("other")
			}
		}
		for range 20 {
			read(n).make(t, s, m)
		}
	}
}

// P16.2 with R5: asking changes nothing, and what other sources are asked makes no difference.
func TestSourcesAreApart(t *testing.T) {
	calls := []sourceCall{read(1), read(9), read(0), read(9), read(2), read(9), read(9), shutting, read(9)}
	i := in(Reset, "ab", "", "cde", "f")
	var sources [6]*Source
	var models [6]*sourceModel
	for k := range sources {
		sources[k], models[k] = bothSources(t, i)
	}
	for at := range len(calls) + len(sources) {
		for k := range sources {
			if n := at - k; n >= 0 && n < len(calls) {
				calls[n].make(t, sources[k], models[k])
			}
			for range 2 {
				if sources[k].Reads() != models[k].reads {
					t.Errorf("step %d, source %d: %d, wanted %d", at, k, sources[k].Reads(), models[k].reads)
				}
			}
		}
	}
}

// R1: several goroutines at once, with a source and a drain each, all of one inflow and one outflow.
func TestSeveralGoroutines(t *testing.T) {
	i, o := in(Closed, "ab", "", "cdefg", "h"), Out{[]int{1, 0, 3, 2}, Reset}
	var wait sync.WaitGroup
	for seed := range 8 {
		wait.Go(func() {
			random := rand.New(rand.NewSource(int64(seed)))
			for range 300 {
				s, m := bothSources(t, i)
				d, dm := bothDrains(t, o)
				for range 12 {
					anySourceCall(random).make(t, s, m)
					anyDrainCall(random).make(t, d, dm)
				}
			}
		})
	}
	wait.Wait()
}
