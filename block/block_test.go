package block

import (
	"iter"
	"math"
	"math/rand"
	"slices"
	"strconv"
	"strings"
	"testing"

	"catchpit/api"
)

// The kinds of bytes are listed here once more, so that the program's own calls are not asked what they should answer.
const (
	tokenBytes   = "abcdefghijklmnopqrstuvwxyz" + "ABCDEFGHIJKLMNOPQRSTUVWXYZ" + "0123456789" + "!#$%&'*+-.^_`|~"
	otherVisible = "\"(),/:;<=>?@[\\]{}"
)

func wantToken(c byte) bool { return strings.IndexByte(tokenBytes, c) >= 0 }

func wantBlank(c byte) bool { return c == 0x20 || c == 0x09 }

func wantText(c byte) bool {
	return wantToken(c) || wantBlank(c) || strings.IndexByte(otherVisible, c) >= 0 || c >= 0x80
}

// wantField reads a line byte by byte, by the words of chapter 5.
func wantField(line string) (f api.Field, ok bool) {
	at := 0
	for at < len(line) && wantToken(line[at]) {
		at++
	}
	if at == 0 || at == len(line) || line[at] != 0x3a {
		return api.Field{}, false
	}
	first, last := len(line), at
	for i := at + 1; i < len(line); i++ {
		if !wantText(line[i]) {
			return api.Field{}, false
		}
		if !wantBlank(line[i]) {
			first, last = min(first, i), i
		}
	}
	f.Name = line[:at]
	if first < len(line) {
		f.Value = line[first : last+1]
	}
	return f, true
}

// wantSection tells the fields and the size of the section that s begins with, if it does.
func wantSection(s string) (l []api.Field, size int, ok bool) {
	for {
		line, _, ended := strings.Cut(s[size:], "\x0d\x0a")
		if !ended {
			return nil, 0, false
		}
		size += len(line) + 2
		if line == "" {
			return l, size, true
		}
		f, ok := wantField(line)
		if !ok {
			return nil, 0, false
		}
		l = append(l, f)
	}
}

// goesOn asks what the chapter does: do some bytes behind s make it a section, with whatever follows? These do, wherever one may end.
func goesOn(s string) bool {
	for _, more := range []string{"", "\x0a", "\x0d\x0a", "\x0a\x0d\x0a", "\x0d\x0a\x0d\x0a", ":\x0d\x0a\x0d\x0a"} {
		if _, _, ok := wantSection(s + more); ok {
			return true
		}
	}
	return false
}

func wantScan(s string) ([]api.Field, int, api.Errno) {
	if l, size, ok := wantSection(s); ok {
		return l, size, api.OK
	}
	for at := range len(s) {
		if !goesOn(s[:at+1]) {
			return nil, at, api.ErrForm
		}
	}
	return nil, len(s), api.ErrMore
}

// checkScan holds what is told of s against the words of P6.2.
func checkScan(t *testing.T, s string) {
	t.Helper()
	l, at, e := Scan(s)
	wantL, wantAt, wantE := wantScan(s)
	if !slices.Equal(l, wantL) || at != wantAt || e != wantE {
		t.Errorf("Scan(%q) = %q, %d, %v, wanted %q, %d, %v", s, l, at, e, wantL, wantAt, wantE)
	}
}

// told is what an iterator tells at one step.
type told struct {
	at   int
	line string
}

// String tells it with the line's bytes to be seen.
func (x told) String() string { return strconv.Itoa(x.at) + " " + strconv.Quote(x.line) }

// firstLines asks it to stop behind n lines; it calls the iterator by hand, so that one that goes on all the same is seen.
func firstLines(it iter.Seq2[int, string], n int) []told {
	var got []told
	it(func(at int, line string) bool {
		got = append(got, told{at, line})
		return len(got) < n
	})
	return got
}

// allLines goes through all of it.
func allLines(it iter.Seq2[int, string]) []told { return firstLines(it, math.MaxInt) }

// wantLines goes byte by byte, by the words of P6.3.
func wantLines(s string) []told {
	var lines []told
	begin := 0
	for i := 0; i+1 < len(s); i++ {
		if s[i] != 0x0d || s[i+1] != 0x0a {
			continue
		}
		lines = append(lines, told{begin, s[begin:i]})
		if begin == i {
			return lines
		}
		begin = i + 2
	}
	return lines
}

// checkLines holds what is told of s against the words of P6.3, to its end and stopped at every step.
func checkLines(t *testing.T, s string) {
	t.Helper()
	want := wantLines(s)
	it := Lines(s)
	if it == nil {
		t.Fatalf("Lines(%q) is nil", s)
	}
	if got := allLines(it); !slices.Equal(got, want) {
		t.Errorf("Lines(%q) = %v, wanted %v", s, got, want)
	}
	for n := 1; n <= len(want); n++ {
		if got := firstLines(it, n); !slices.Equal(got, want[:n]) {
			t.Errorf("Lines(%q), stopped behind %d, = %v, wanted %v", s, n, got, want[:n])
		}
	}
	if got := allLines(it); !slices.Equal(got, want) {
		t.Errorf("Lines(%q), gone through again, = %v, wanted %v", s, got, want)
	}
}

// everyText tells all texts of at most that many of the bytes.
func everyText(bytes string, most int) []string {
	all := []string{""}
	for begin := 0; most > 0; most-- {
		end := len(all)
		for _, s := range all[begin:end] {
			for i := range len(bytes) {
				all = append(all, s+bytes[i:i+1])
			}
		}
		begin = end
	}
	return all
}

// f tells a field.
func f(name, value string) api.Field { return api.Field{Name: name, Value: value} }

// lists tells lists of fields that are right, with their sections.
func lists() []struct {
	l       []api.Field
	section string
} {
	return []struct {
		l       []api.Field
		section string
	}{
		{nil, "\r\n"},
		{[]api.Field{}, "\r\n"},
		{[]api.Field{f("a", "1")}, "a: 1\r\n\r\n"},
		{[]api.Field{f("a", "")}, "a:\r\n\r\n"},
		{[]api.Field{f("a", "b"), f("c", "")}, "a: b\r\nc:\r\n\r\n"},
		{[]api.Field{f("c", ""), f("a", "b")}, "c:\r\na: b\r\n\r\n"},
		{[]api.Field{f("Host", "a b"), f("X-Sum", "1"), f("Host", "a b"), f("HOST", ":")}, "Host: a b\r\nX-Sum: 1\r\nHost: a b\r\nHOST: :\r\n\r\n"},
		{[]api.Field{f("a", ""), f("b", ""), f("c", "")}, "a:\r\nb:\r\nc:\r\n\r\n"},
		{[]api.Field{f("0", "0"), f("a", "b: c")}, "0: 0\r\na: b: c\r\n\r\n"},
		{[]api.Field{f("a", "b \t c"), f("d", "\xff\x80")}, "a: b \t c\r\nd: \xff\x80\r\n\r\n"},
		{[]api.Field{f(tokenBytes, otherVisible), f("a", tokenBytes)}, tokenBytes + ": " + otherVisible + "\r\na: " + tokenBytes + "\r\n\r\n"},
	}
}

// followers tells texts that may stand behind a section, some of which look like more of it.
func followers() []string {
	return []string{"", "b", "body", "\r", "\n", "\r\n", "\r\n\r\n", "a: 1\r\n\r\n", " a", ":", "\x00\x7f\xff", "a b\r\n"}
}

// P6.1
func TestPutAndSize(t *testing.T) {
	for _, x := range lists() {
		if s, e := Put(x.l...); s != x.section || e != api.OK {
			t.Errorf("Put(%q) = %q, %v, wanted %q", x.l, s, e, x.section)
		}
		if n := Size(x.l...); n != len(x.section) {
			t.Errorf("Size(%q) = %d, wanted %d", x.l, n, len(x.section))
		}
	}
}

// P6.1: one wrong field is enough, wherever it stands.
func TestPutRefuses(t *testing.T) {
	for _, wrong := range []api.Field{
		{},
		f("", "a"),
		f("a b", ""),
		f("a:", "b"),
		f(" a", "b"),
		f("a\r\nb", "c"),
		f("\r\n", ""),
		f("\x80", "b"),
		f("a", " "),
		f("a", " b"),
		f("a", "b\t"),
		f("a", "b\r\nc: d"),
		f("a", "\r\n"),
		f("a", "b\r"),
		f("a", "\nb"),
		f("a", "\x00"),
		f("a", "b\x7fc"),
	} {
		for _, l := range [][]api.Field{
			{wrong},
			{wrong, f("c", "d")},
			{f("c", "d"), wrong},
			{f("c", "d"), wrong, f("e", "")},
			{wrong, wrong},
		} {
			if s, e := Put(l...); s != "" || e != api.ErrArg {
				t.Errorf("Put(%q) = %q, %v, wanted nothing and ErrArg", l, s, e)
			}
			if n := Size(l...); n != 0 {
				t.Errorf("Size(%q) = %d, wanted 0", l, n)
			}
		}
	}
}

// P6.1 with R4: what is handed in stays as it is, spare room included.
func TestNothingHandedInIsChanged(t *testing.T) {
	for _, list := range [][]api.Field{
		{f("a", "1"), f("B", ""), f("c", "x y")},
		{f("a", "1"), f("b c", ""), f("c", " x")},
	} {
		whole := append(slices.Clone(list), f("spare", "room"))
		want := slices.Clone(whole)
		Put(whole[:3]...)
		Size(whole[:3]...)
		if !slices.Equal(whole, want) {
			t.Errorf("the list became %q, it was %q", whole, want)
		}
	}
}

// P6.2
func TestScan(t *testing.T) {
	for _, x := range []struct {
		s    string
		want []api.Field
		size int
	}{
		{"\r\n", nil, 2},
		{"\r\n\r\n", nil, 2},
		{"\r\na: 1\r\n\r\n", nil, 2},
		{"\r\n\x00", nil, 2},
		{"\r\n\r", nil, 2},
		{"a: 1\r\n\r\n", []api.Field{f("a", "1")}, 8},
		{"a: 1\r\n\r\n\r\n", []api.Field{f("a", "1")}, 8},
		{"a: 1\r\n\r\nb", []api.Field{f("a", "1")}, 8},
		{"a: 1\r\n\r\n b", []api.Field{f("a", "1")}, 8},
		{"a: 1\r\n\r\n\n", []api.Field{f("a", "1")}, 8},
		{"a: 1\r\n\r\nb: 2\r\n\r\n", []api.Field{f("a", "1")}, 8},
		{"a:\r\n\r\n", []api.Field{f("a", "")}, 6},
		{"a: \t \r\n\r\n", []api.Field{f("a", "")}, 9},
		{"a:1\r\n\r\n", []api.Field{f("a", "1")}, 7},
		{"a::\r\n\r\n", []api.Field{f("a", ":")}, 7},
		{"a:\t1 : 2 \r\n\r\n", []api.Field{f("a", "1 : 2")}, 13},
		{"A: 1\r\nb:  x y \r\nc:\r\n\r\nbody", []api.Field{f("A", "1"), f("b", "x y"), f("c", "")}, 22},
		{"a: 1\r\na: 1\r\nA: 2\r\n\r\n", []api.Field{f("a", "1"), f("a", "1"), f("A", "2")}, 20},
		{"a: \xff\x80\xa0\r\n\r\n", []api.Field{f("a", "\xff\x80\xa0")}, 10},
		{"a:" + otherVisible + "\r\n\r\n", []api.Field{f("a", otherVisible)}, len(otherVisible) + 6},
		{tokenBytes + ":\r\n\r\n", []api.Field{f(tokenBytes, "")}, len(tokenBytes) + 5},
	} {
		if l, at, e := Scan(x.s); !slices.Equal(l, x.want) || at != x.size || e != api.OK {
			t.Errorf("Scan(%q) = %q, %d, %v, wanted %q, %d", x.s, l, at, e, x.want, x.size)
		}
	}
}

// P6.2: a text that ends within a section, at every byte of it.
func TestScanOfPartsOfASection(t *testing.T) {
	for _, section := range []string{
		"\r\n",
		"a:\r\n\r\n",
		"a: 1\r\n\r\n",
		"A: 1\r\nb:  x y \r\nc:\r\n\r\n",
		"Host:a\r\n" + tokenBytes + ":\t" + otherVisible + "\xff\r\n\r\n",
	} {
		for n := range len(section) {
			if l, at, e := Scan(section[:n]); len(l) != 0 || at != n || e != api.ErrMore {
				t.Errorf("Scan(%q) = %q, %d, %v, wanted nothing, %d, ErrMore", section[:n], l, at, e, n)
			}
		}
		if _, at, e := Scan(section); at != len(section) || e != api.OK {
			t.Errorf("Scan(%q): %d, %v", section, at, e)
		}
	}
}

// P6.2: the place is that of the first byte that is wrong, whatever follows it.
func TestScanRefuses(t *testing.T) {
	for _, x := range []struct {
		s  string
		at int
	}{
		{"\n", 0},
		{"\r\r", 1},
		{"\rx", 1},
		{"\r\r\n", 1},
		{" ", 0},
		{" \r", 0},
		{":", 0},
		{": b", 0},
		{"\x00", 0},
		{"\x80", 0},
		{" a: b", 0},
		{"\ta: b", 0},
		{"a b", 1},
		{"a ", 1},
		{"a :", 1},
		{"a\t:", 1},
		{"a\r", 1},
		{"a\n", 1},
		{"ab\x80", 2},
		{"a(b:", 1},
		{"a:\n", 2},
		{"a: \n", 3},
		{"a: b\n", 4},
		{"a: \x00", 3},
		{"a: b\x7fc", 4},
		{"a: b\x1f", 4},
		{"a: b\v", 4},
		{"a: b\rx", 5},
		{"a: b\r\r", 5},
		{"a: b\r\x00", 5},
		{"a: b\r c", 5},
		{"a:\r\r", 3},
		{"a: b\r\n c", 6},
		{"a: b\r\n\t", 6},
		{"a: b\r\n:", 6},
		{"a: b\r\n\n", 6},
		{"a: b\r\n\x00", 6},
		{"a: b\r\n\rx", 7},
		{"a: b\r\n\r\r", 7},
		{"a: b\r\nc d", 7},
		{"a: b\r\nc\r", 7},
		{"a: b\r\nc: \x7f", 9},
		{"a: b\r\nc: d\r:", 11},
		{"a:\r\nb:\r\n\x00", 8},
	} {
		for _, behind := range append(followers(), "\n\r\n", ": b\r\n\r\n") {
			s := x.s + behind
			if l, at, e := Scan(s); len(l) != 0 || at != x.at || e != api.ErrForm {
				t.Errorf("Scan(%q) = %q, %d, %v, wanted nothing, %d, ErrForm", s, l, at, e, x.at)
			}
		}
	}
}

// P6.2 and P6.3: every byte, in place of each byte of a section and between each two.
func TestEachByteAtEachPlace(t *testing.T) {
	const section = "ab: c \r\nd:\r\nE:\tf g\r\n\r\nx"
	for i := range 256 {
		c := string([]byte{byte(i)})
		for at := range len(section) + 1 {
			inserted := section[:at] + c + section[at:]
			checkScan(t, inserted)
			checkScan(t, section[:at]+c)
			checkLines(t, inserted)
			if at < len(section) {
				replaced := section[:at] + c + section[at+1:]
				checkScan(t, replaced)
				checkLines(t, replaced)
			}
		}
	}
}

// P6.2 and P6.3: all short texts.
func TestEveryShortText(t *testing.T) {
	for _, s := range everyText("aB: \r\n\x00\xff", 5) {
		checkScan(t, s)
		checkLines(t, s)
	}
	for _, s := range everyText("a:\r\n", 8) {
		checkScan(t, s)
		checkLines(t, s)
	}
	// Long enough for two lines, and what stands behind the section.
	for _, s := range everyText("\r\na", 5) {
		checkScan(t, "a:\r\nb: c\r\n"+s)
		checkScan(t, "a:\r\nb: c\r"+s)
		checkLines(t, "a:\r\nb: c\r"+s)
	}
}

// P6.2 and P6.3: no length is too great.
func TestLongTexts(t *testing.T) {
	name, value := strings.Repeat("n", 70000), strings.Repeat("v ", 70000)+"v"
	l := slices.Repeat([]api.Field{f("a", "b"), f(name, value), f("c", "")}, 20)
	l = append(l, slices.Repeat([]api.Field{f("d", "e")}, 70000)...)
	s, e := Put(l...)
	if e != api.OK || Size(l...) != len(s) {
		t.Fatal(len(s), e)
	}
	if got, at, e := Scan(s + "x"); !slices.Equal(got, l) || at != len(s) || e != api.OK {
		t.Error(len(got), at, e)
	}
	if got, at, e := Scan(s[:len(s)-1]); len(got) != 0 || at != len(s)-1 || e != api.ErrMore {
		t.Error(len(got), at, e)
	}
	if got, at, e := Scan(s[:len(s)-1] + "x"); len(got) != 0 || at != len(s)-1 || e != api.ErrForm {
		t.Error(len(got), at, e)
	}
	if got, want := allLines(Lines(s+"x\r\n")), wantLines(s); !slices.Equal(got, want) || len(want) != len(l)+1 {
		t.Error(len(got), len(want))
	}
}

// P6.2 with R4: what is written into an answer, its spare room too, is seen nowhere else.
func TestAnswersAreNewMemory(t *testing.T) {
	const s = "a: 1\r\nb: 2\r\nc: 3\r\n\r\n"
	first, _, _ := Scan(s)
	second, _, _ := Scan(s)
	second = second[:cap(second)]
	for i := range second {
		second[i] = f("over", "written")
	}
	third, _, _ := Scan(s)
	want := []api.Field{f("a", "1"), f("b", "2"), f("c", "3")}
	if !slices.Equal(first, want) || !slices.Equal(third, want) {
		t.Errorf("%q and %q, wanted %q", first, third, want)
	}
}

// P6.3
func TestLines(t *testing.T) {
	for _, x := range []struct {
		s    string
		want []told
	}{
		{"", nil},
		{"a", nil},
		{"\r", nil},
		{"\n", nil},
		{"\n\r", nil},
		{"a\rb", nil},
		{"a\nb", nil},
		{"a\r", nil},
		{"a\rb\n", nil},
		{"\r\n", []told{{0, ""}}},
		{"\r\n\r\n", []told{{0, ""}}},
		{"\r\na\r\n", []told{{0, ""}}},
		{"a\r\n", []told{{0, "a"}}},
		{"a\r\nb", []told{{0, "a"}}},
		{"a\r\nb\r", []told{{0, "a"}}},
		{"a\r\n\r", []told{{0, "a"}}},
		{"a\r\n\n", []told{{0, "a"}}},
		{"a\r\nb\n", []told{{0, "a"}}},
		{"a\r\n\r\n", []told{{0, "a"}, {3, ""}}},
		{"a\r\n\r\nb\r\n", []told{{0, "a"}, {3, ""}}},
		{"ab\r\nc\r\n", []told{{0, "ab"}, {4, "c"}}},
		// a D without its A, within a line and behind one
		{"a\rb\r\n", []told{{0, "a\rb"}}},
		{"\ra\r\n", []told{{0, "\ra"}}},
		{"\r\r\n", []told{{0, "\r"}}},
		{"a\r\r\n", []told{{0, "a\r"}}},
		{"a\r\n\r\r\n\r\n", []told{{0, "a"}, {3, "\r"}, {6, ""}}},
		{"a\r\n\rb\r\n", []told{{0, "a"}, {3, "\rb"}}},
		{"ab\r\nc\r\r\n\r\nd\r\n", []told{{0, "ab"}, {4, "c\r"}, {8, ""}}},
		// an A without its D
		{"\n\r\n", []told{{0, "\n"}}},
		{"a\nb\r\n", []told{{0, "a\nb"}}},
		{"a\r\n\n\r\n", []told{{0, "a"}, {3, "\n"}}},
		// lines are not asked whether they are fields'
		{" \r\n:\r\n\x00\xff\r\na: b\r\n", []told{{0, " "}, {3, ":"}, {6, "\x00\xff"}, {10, "a: b"}}},
	} {
		it := Lines(x.s)
		if it == nil {
			t.Fatalf("Lines(%q) is nil", x.s)
		}
		if got := allLines(it); !slices.Equal(got, x.want) {
			t.Errorf("Lines(%q) = %v, wanted %v", x.s, got, x.want)
		}
		checkLines(t, x.s)
	}
}

// P6.3: it stops when it is asked to, and a loop may leave it.
func TestLinesStops(t *testing.T) {
	const s = "a\r\nbc\r\n\r\nd\r\n"
	want := []told{{0, "a"}, {3, "bc"}, {7, ""}}
	for n := range want {
		var got []told
		for at, line := range Lines(s) {
			got = append(got, told{at, line})
			if len(got) > n {
				break
			}
		}
		if !slices.Equal(got, want[:n+1]) {
			t.Errorf("left behind %d: %v", n+1, got)
		}
		if got := firstLines(Lines(s), n+1); !slices.Equal(got, want[:n+1]) {
			t.Errorf("asked to stop behind %d: %v", n+1, got)
		}
	}
}

// P6.3 with R6: each time from the beginning on, one going-through within another one too.
func TestLinesFromTheBeginningEachTime(t *testing.T) {
	it := Lines("a\r\nb\r\nc\r\n\r\n")
	want := allLines(it)
	firstLines(it, 2)
	steps := 0
	for at, line := range it {
		if want[steps] != (told{at, line}) {
			t.Errorf("step %d: %d, %q", steps, at, line)
		}
		steps++
		if got := allLines(it); !slices.Equal(got, want) {
			t.Errorf("within step %d: %v, wanted %v", steps, got, want)
		}
	}
	if steps != 4 || len(want) != 4 {
		t.Errorf("%d steps, of %v", steps, want)
	}
}

// checkPutIsScanned holds a list of right fields, and what follows its section, against P6.4.
func checkPutIsScanned(t *testing.T, l []api.Field, behind string) {
	t.Helper()
	s, e := Put(l...)
	if e != api.OK {
		t.Fatalf("Put(%q): %v", l, e)
	}
	if got, at, e := Scan(s + behind); !slices.Equal(got, l) || at != len(s) || e != api.OK {
		t.Errorf("%q is put as %q, and with %q behind it scanned as %q, %d, %v", l, s, behind, got, at, e)
	}
	if n := Size(l...); n != len(s) {
		t.Errorf("Size(%q) = %d, wanted %d", l, n, len(s))
	}
}

// P6.4
func TestPutIsScannedAsItWas(t *testing.T) {
	for _, x := range lists() {
		for _, behind := range followers() {
			checkPutIsScanned(t, x.l, behind)
		}
		for i := range 256 {
			checkPutIsScanned(t, x.l, string([]byte{byte(i)}))
		}
	}
}

// P6.4: any list, of any right fields.
func TestAnyPutIsScannedAsItWas(t *testing.T) {
	r := rand.New(rand.NewSource(6))
	some := func(bytes string, n int) string {
		b := make([]byte, n)
		for i := range b {
			b[i] = bytes[r.Intn(len(bytes))]
		}
		return string(b)
	}
	for range 5000 {
		var l []api.Field
		for range r.Intn(6) {
			value := some(tokenBytes+otherVisible+" \t\x80\xa0\xff", r.Intn(9))
			l = append(l, f(some(tokenBytes, 1+r.Intn(5)), strings.Trim(value, " \t")))
		}
		checkPutIsScanned(t, l, some("a: \r\n\x00\xff", r.Intn(6)))
	}
}

// P6.1 to P6.3 with R5: what was asked before makes no difference.
func TestTheSameIsAnsweredAgain(t *testing.T) {
	for range 2 {
		if l, at, e := Scan("a: b\r\n c"); len(l) != 0 || at != 6 || e != api.ErrForm {
			t.Errorf("%q, %d, %v", l, at, e)
		}
		if l, at, e := Scan("a: b\r"); len(l) != 0 || at != 5 || e != api.ErrMore {
			t.Errorf("%q, %d, %v", l, at, e)
		}
		if l, at, e := Scan("\n"); len(l) != 0 || at != 0 || e != api.ErrForm {
			t.Errorf("%q, %d, %v", l, at, e)
		}
		if l, at, e := Scan("c: d\r\n\r\n"); !slices.Equal(l, []api.Field{f("c", "d")}) || at != 8 || e != api.OK {
			t.Errorf("%q, %d, %v", l, at, e)
		}
		if s, e := Put(f("a", "b"), f("", "")); s != "" || e != api.ErrArg {
			t.Errorf("%q, %v", s, e)
		}
		if s, e := Put(f("c", "d")); s != "c: d\r\n\r\n" || e != api.OK {
			t.Errorf("%q, %v", s, e)
		}
		if n := Size(); n != 2 {
			t.Errorf("Size of no fields = %d", n)
		}
	}
}
