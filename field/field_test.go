package field

import (
	"slices"
	"strings"
	"testing"

	"catchpit/api"
)

// The kinds of bytes are listed here once more, so that the program's own calls are not asked what they should answer.
const (
	tokenBytes   = "abcdefghijklmnopqrstuvwxyz" + "ABCDEFGHIJKLMNOPQRSTUVWXYZ" + "0123456789" + "!#$%&'*+-.^_`|~"
	otherVisible = "\"(),/:;<=>?@[\\]{}"
)

func wantToken(c byte) bool { return strings.IndexByte(tokenBytes, c) >= 0 }

func wantBlank(c byte) bool { return c == 0x20 || c == 0x09 }

func wantText(c byte) bool {
	return wantToken(c) || wantBlank(c) || strings.IndexByte(otherVisible, c) >= 0 || c >= 0x80
}

// wantParse reads a line byte by byte, by the chapter's words.
func wantParse(line string) (api.Field, api.Errno) {
	at := 0
	for at < len(line) && wantToken(line[at]) {
		at++
	}
	if at == 0 || at == len(line) || line[at] != 0x3a {
		return api.Field{}, api.ErrForm
	}
	first, last := len(line), at
	for i := at + 1; i < len(line); i++ {
		if !wantText(line[i]) {
			return api.Field{}, api.ErrForm
		}
		if !wantBlank(line[i]) {
			first, last = min(first, i), i
		}
	}
	if first == len(line) {
		return api.Field{Name: line[:at]}, api.OK
	}
	return api.Field{Name: line[:at], Value: line[first : last+1]}, api.OK
}

func wantRight(f api.Field) bool {
	for i := range len(f.Name) {
		if !wantToken(f.Name[i]) {
			return false
		}
	}
	for i := range len(f.Value) {
		edge := i == 0 || i == len(f.Value)-1
		if !wantText(f.Value[i]) || edge && wantBlank(f.Value[i]) {
			return false
		}
	}
	return f.Name != ""
}

func wantPut(f api.Field) (string, api.Errno) {
	switch {
	case !wantRight(f):
		return "", api.ErrArg
	case f.Value == "":
		return f.Name + ":", api.OK
	}
	return f.Name + ": " + f.Value, api.OK
}

// wantIs holds two names against each other byte by byte; the letters differ by 20 (hexadecimal).
func wantIs(a, b string) bool {
	if len(a) != len(b) {
		return false
	}
	for i := range len(a) {
		small := a[i] | 0x20
		letter := 'a' <= small && small <= 'z'
		if a[i] != b[i] && !(letter && small == b[i]|0x20) {
			return false
		}
	}
	return true
}

// checkField holds all that is told of a field against the words of P5.1 and P5.3.
func checkField(t *testing.T, f api.Field) {
	t.Helper()
	if got, want := Right(f), wantRight(f); got != want {
		t.Errorf("Right(%q) = %v", f, got)
	}
	line, e := Put(f)
	if want, wantE := wantPut(f); line != want || e != wantE {
		t.Errorf("Put(%q) = %q, %v, wanted %q, %v", f, line, e, want, wantE)
	}
	if e != api.OK {
		return
	}
	if got, e := Parse(line); got != f || e != api.OK {
		t.Errorf("%q is put as %q and parsed as %q, %v", f, line, got, e)
	}
}

// checkLine holds what is told of a line against the words of P5.1; what was parsed is right, and so is put and parsed again.
func checkLine(t *testing.T, line string) {
	t.Helper()
	f, e := Parse(line)
	if want, wantE := wantParse(line); f != want || e != wantE {
		t.Errorf("Parse(%q) = %q, %v, wanted %q, %v", line, f, e, want, wantE)
	}
	if e == api.OK {
		if !Right(f) {
			t.Errorf("Parse(%q) = %q, which isn't right", line, f)
		}
		checkField(t, f)
	}
}

// everyText tells all texts of at most that many of the bytes.
func everyText(bytes string, most int) []string {
	all := []string{""}
	for begin := 0; most > 0; most-- {
		end := len(all)
		for _, s := range all[begin:end] {
			for i := range len(bytes) {
				all = append(all, s+bytes[i:i+1])
			}
		}
		begin = end
	}
	return all
}

// P5.1
func TestRightAndPut(t *testing.T) {
	for _, x := range []struct{ name, value, line string }{
		{"Host", "a", "Host: a"},
		{"host", "a b", "host: a b"},
		{"a", "b\tc", "a: b\tc"},
		{"a", "", "a:"},
		{tokenBytes, "", tokenBytes + ":"},
		{tokenBytes, otherVisible, tokenBytes + ": " + otherVisible},
		{"a", ":", "a: :"},
		{"a", "b: c", "a: b: c"},
		{"a", "\xff\x80", "a: \xff\x80"},
		{"a", "\xa0b\x85", "a: \xa0b\x85"},
		{"1", "0", "1: 0"},
		{"X-Sum", "a , b;c=\"d\"", "X-Sum: a , b;c=\"d\""},
	} {
		f := api.Field{Name: x.name, Value: x.value}
		if !Right(f) {
			t.Errorf("Right(%q) = false", f)
		}
		if line, e := Put(f); line != x.line || e != api.OK {
			t.Errorf("Put(%q) = %q, %v, wanted %q", f, line, e, x.line)
		}
	}
}

// P5.1
func TestPutRefuses(t *testing.T) {
	for _, f := range []api.Field{
		{},
		{Value: "a"},
		{Name: " "},
		{Name: "a b", Value: "c"},
		{Name: " a", Value: "b"},
		{Name: "a ", Value: "b"},
		{Name: "a\t", Value: "b"},
		{Name: "a:", Value: "b"},
		{Name: ":", Value: "b"},
		{Name: "a:b"},
		{Name: "(a)", Value: "b"},
		{Name: "a\x00", Value: "b"},
		{Name: "\x80", Value: "b"},
		{Name: "\u00e4", Value: "b"},
		{Name: "a\r\nb", Value: "c"},
		{Name: "a", Value: " "},
		{Name: "a", Value: "\t"},
		{Name: "a", Value: " b"},
		{Name: "a", Value: "\tb"},
		{Name: "a", Value: "b "},
		{Name: "a", Value: "b\t"},
		{Name: "a", Value: "\n"},
		{Name: "a", Value: "b\r"},
		{Name: "a", Value: "b\r\nc: d"},
		{Name: "a", Value: "\x00"},
		{Name: "a", Value: "b\x7fc"},
		{Name: "a b", Value: " c"},
	} {
		if Right(f) {
			t.Errorf("Right(%q) = true", f)
		}
		if line, e := Put(f); line != "" || e != api.ErrArg {
			t.Errorf("Put(%q) = %q, %v, wanted nothing and ErrArg", f, line, e)
		}
	}
}

// P5.1
func TestParse(t *testing.T) {
	for _, x := range []struct{ line, name, value string }{
		{"Host:  a b ", "Host", "a b"},
		{"Host: a", "Host", "a"},
		{"Host:a", "Host", "a"},
		{"hOST:a", "hOST", "a"},
		{"a:", "a", ""},
		{"a: ", "a", ""},
		{"a:\t", "a", ""},
		{"a: \t  \t", "a", ""},
		{"a:\tb\t", "a", "b"},
		{"a: \t b \t ", "a", "b"},
		{"a:b \t c", "a", "b \t c"},
		{"a::", "a", ":"},
		{"a:b:c", "a", "b:c"},
		{"a: :b: ", "a", ":b:"},
		{"a: b : c", "a", "b : c"},
		{"a:\xff", "a", "\xff"},
		{"a: \xa0 ", "a", "\xa0"},
		{"a: \u2003 ", "a", "\u2003"},
		{"a:" + otherVisible, "a", otherVisible},
		{tokenBytes + ": " + tokenBytes, tokenBytes, tokenBytes},
	} {
		if f, e := Parse(x.line); f.Name != x.name || f.Value != x.value || e != api.OK {
			t.Errorf("Parse(%q) = %q, %v, wanted %q and %q", x.line, f, e, x.name, x.value)
		}
	}
}

// P5.1
func TestParseRefuses(t *testing.T) {
	for _, line := range []string{
		"",
		" ",
		"a",
		"a b",
		"a ",
		":",
		"::",
		": b",
		":b",
		" : b",
		"a : b",
		"a\t: b",
		" a: b",
		"\ta: b",
		"a b: c",
		"a\x00: b",
		"a\r: b",
		"\x80: b",
		"\u00e4: b",
		"(a): b",
		"a=b: c",
		"a: b\x00",
		"a:\x00b",
		"a: b\r",
		"a: b\n",
		"a: b\r\n",
		"a: b\r\nc: d",
		"a: b\r\n c",
		"a:\n",
		"a: \x7f",
		"a: \x1f ",
		"a:\v",
	} {
		if f, e := Parse(line); f != (api.Field{}) || e != api.ErrForm {
			t.Errorf("Parse(%q) = %q, %v, wanted nothing and ErrForm", line, f, e)
		}
	}
}

// P5.1 and P5.3: a byte counts at each place of a name, of a value and of a line.
func TestEachByteAtEachPlace(t *testing.T) {
	for i := range 256 {
		s := string([]byte{byte(i)})
		for _, at := range []string{s, s + "ab", "a" + s + "b", "ab" + s} {
			checkField(t, api.Field{Name: at, Value: "x"})
			checkField(t, api.Field{Name: at})
			checkField(t, api.Field{Name: "x", Value: at})
			checkLine(t, at+":x")
			checkLine(t, at)
			checkLine(t, "x:"+at)
			checkLine(t, "x: "+at+" ")
		}
	}
}

// P5.1 and P5.3: all short lines, and all fields of a short name and a short value.
func TestEveryShortText(t *testing.T) {
	const bytes = "aB: \t\r\xff("
	for _, line := range everyText(bytes, 5) {
		checkLine(t, line)
	}
	short := everyText(bytes, 3)
	for _, name := range everyText(bytes, 2) {
		for _, value := range short {
			checkField(t, api.Field{Name: name, Value: value})
		}
	}
}

// P5.1 and P5.3
func TestLongFields(t *testing.T) {
	name, value := strings.Repeat("n", 70000), strings.Repeat("v ", 70000)+"v"
	checkField(t, api.Field{Name: name, Value: value})
	checkField(t, api.Field{Name: name})
	checkField(t, api.Field{Name: name, Value: value + " "})
	checkLine(t, name+":"+strings.Repeat(" \t", 70000)+value+strings.Repeat("\t ", 70000))
	checkLine(t, name+":"+value+"\x00")
	checkLine(t, name)
}

// P5.3
func TestPutIsParsedAsItWas(t *testing.T) {
	for _, f := range []api.Field{
		{Name: "Host", Value: "a b"},
		{Name: "X-Sum", Value: ""},
		{Name: "a", Value: ":"},
		{Name: "a", Value: "b: c"},
		{Name: "a", Value: "b \t\t c"},
		{Name: tokenBytes, Value: tokenBytes + " " + otherVisible},
		{Name: "A", Value: "\x80 \xff"},
	} {
		line, e := Put(f)
		if e != api.OK {
			t.Errorf("Put(%q): %v", f, e)
		}
		if got, e := Parse(line); got != f || e != api.OK {
			t.Errorf("%q is put as %q and parsed as %q, %v", f, line, got, e)
		}
	}
}

// P5.2: neither a name that isn't right nor the value is anything to it.
func TestIs(t *testing.T) {
	for _, x := range []struct {
		a, b string
		want bool
	}{
		{"Host", "Host", true},
		{"Host", "hOST", true},
		{"content-length", "Content-Length", true},
		{"Host", "Hosts", false},
		{"Host", "Hos", false},
		{"Host", "ost", false},
		{"Host", "Host ", false},
		{"Host", "Host:", false},
		{"Host", "Most", false},
		{"Host", "", false},
		{"", "", true},
		{"a b", "A B", true},
		{"^", "~", false},
		{"@", "`", false},
		{"a-b", "a\rb", false},
		{"k", "\u212a", false},
		{"\u00e4", "\u00c4", false},
		{"\xe4", "\xc4", false},
	} {
		for _, value := range []string{"", "Host", " \x00"} {
			if got := Is(api.Field{Name: x.a, Value: value}, x.b); got != x.want {
				t.Errorf("Is of %q (with %q) and %q = %v", x.a, value, x.b, got)
			}
			if got := Is(api.Field{Name: x.b, Value: value}, x.a); got != x.want {
				t.Errorf("Is of %q (with %q) and %q = %v", x.b, value, x.a, got)
			}
		}
	}
}

// P5.2
func TestIsOfEveryTwoBytes(t *testing.T) {
	for i := range 256 {
		for j := range 256 {
			a, b := string([]byte{'x', byte(i)}), string([]byte{'X', byte(j)})
			if got, want := Is(api.Field{Name: a, Value: "v"}, b), wantIs(a, b); got != want {
				t.Errorf("Is of %q and %q = %v", a, b, got)
			}
		}
	}
}

// sample tells a list with fields that come more than once, alike ones, an empty name, and ones that aren't right.
func sample() []api.Field {
	return []api.Field{
		{Name: "Host", Value: "1"},
		{Name: "a", Value: ""},
		{Name: "HOST", Value: "2"},
		{Name: "X-Sum", Value: "3"},
		{Name: "", Value: "4"},
		{Name: "host", Value: "1"},
		{Name: "a b", Value: " 5\r"},
		{Name: "Host", Value: "1"},
		{Name: "A", Value: "6"},
		{Name: "Hosts", Value: "7"},
	}
}

// P5.2: every value is told, as it is, in order, those that are empty or the same too.
func TestGet(t *testing.T) {
	for _, x := range []struct {
		name string
		want []string
	}{
		{"Host", []string{"1", "2", "1", "1"}},
		{"hoST", []string{"1", "2", "1", "1"}},
		{"a", []string{"", "6"}},
		{"A", []string{"", "6"}},
		{"x-sum", []string{"3"}},
		{"", []string{"4"}},
		{"A B", []string{" 5\r"}},
		{"hosts", []string{"7"}},
		{"Hos", nil},
		{"Host ", nil},
		{"Trailer", nil},
		{"1", nil},
	} {
		if got := Get(sample(), x.name); !slices.Equal(got, x.want) {
			t.Errorf("Get of %q = %q, wanted %q", x.name, got, x.want)
		}
		if got := Get(nil, x.name); len(got) != 0 {
			t.Errorf("Get of %q and no fields = %q", x.name, got)
		}
		if got := Get([]api.Field{}, x.name); len(got) != 0 {
			t.Errorf("Get of %q and no fields = %q", x.name, got)
		}
	}
}

// P5.2
func TestWithout(t *testing.T) {
	l := sample()
	for _, x := range []struct {
		names []string
		want  []int // places in the sample
	}{
		{nil, []int{0, 1, 2, 3, 4, 5, 6, 7, 8, 9}},
		{[]string{}, []int{0, 1, 2, 3, 4, 5, 6, 7, 8, 9}},
		{[]string{"Trailer"}, []int{0, 1, 2, 3, 4, 5, 6, 7, 8, 9}},
		{[]string{"Host "}, []int{0, 1, 2, 3, 4, 5, 6, 7, 8, 9}},
		{[]string{""}, []int{0, 1, 2, 3, 5, 6, 7, 8, 9}},
		{[]string{"hOSt"}, []int{1, 3, 4, 6, 8, 9}},
		{[]string{"Host", "host"}, []int{1, 3, 4, 6, 8, 9}},
		{[]string{"a", "x-SUM"}, []int{0, 2, 4, 5, 6, 7, 9}},
		{[]string{"x-SUM", "a"}, []int{0, 2, 4, 5, 6, 7, 9}},
		{[]string{"none", "A", "none"}, []int{0, 2, 3, 4, 5, 6, 7, 9}},
		{[]string{"none", "A", "", "A B"}, []int{0, 2, 3, 5, 7, 9}},
		{[]string{"HOST", "HOSTS", "A", "X-SUM", "", "A B"}, nil},
	} {
		var want []api.Field
		for _, at := range x.want {
			want = append(want, l[at])
		}
		if got := Without(sample(), x.names...); !slices.Equal(got, want) {
			t.Errorf("Without %q = %q, wanted %q", x.names, got, want)
		}
		if got := Without(nil, x.names...); len(got) != 0 {
			t.Errorf("Without %q of no fields = %q", x.names, got)
		}
		if got := Without([]api.Field{}, x.names...); len(got) != 0 {
			t.Errorf("Without %q of no fields = %q", x.names, got)
		}
	}
}

// P5.2: each field of every short list is got or left, and never both.
func TestEveryShortList(t *testing.T) {
	names := []string{"a", "A", "b", "", "ab"}
	for _, places := range everyText("\x00\x01\x02\x03\x04", 4) {
		var l []api.Field
		for i := range len(places) {
			l = append(l, api.Field{Name: names[places[i]], Value: string([]byte{'0' + byte(i)})})
		}
		for _, one := range names {
			for _, two := range names {
				checkParted(t, l, one, two)
			}
		}
	}
}

func checkParted(t *testing.T, l []api.Field, one, two string) {
	t.Helper()
	var got []string
	var left, leftBoth []api.Field
	for _, f := range l {
		isOne, isTwo := wantIs(f.Name, one), wantIs(f.Name, two)
		if isOne {
			got = append(got, f.Value)
		} else {
			left = append(left, f)
		}
		if !isOne && !isTwo {
			leftBoth = append(leftBoth, f)
		}
	}
	if told := Get(l, one); !slices.Equal(told, got) {
		t.Errorf("Get of %q and %q = %q, wanted %q", l, one, told, got)
	}
	if told := Without(l, one); !slices.Equal(told, left) {
		t.Errorf("Without %q of %q = %q, wanted %q", one, l, told, left)
	}
	if told := Without(l, one, two); !slices.Equal(told, leftBoth) {
		t.Errorf("Without %q and %q of %q = %q, wanted %q", one, two, l, told, leftBoth)
	}
}

// P5.2 with R4: what is handed in stays as it is, spare room included.
func TestNothingHandedInIsChanged(t *testing.T) {
	spare := api.Field{Name: "spare", Value: "room"}
	whole := append(sample(), spare, spare)
	l := whole[:len(whole)-2]
	names := []string{"host", "", "spare", "room"}
	for _, some := range [][]string{nil, names[:1], names[:2]} {
		Without(l, some...)
		Get(l, "host")
		Get(l, "spare")
		if !slices.Equal(whole, append(sample(), spare, spare)) {
			t.Fatalf("the list became %q", whole)
		}
		if !slices.Equal(names, []string{"host", "", "spare", "room"}) {
			t.Fatalf("the names became %q", names)
		}
	}
}

// P5.2 with R4: what is answered shares no memory with the list or with another answer, spare room included.
func TestAnswersAreNewMemory(t *testing.T) {
	for _, names := range [][]string{nil, {"none"}, {"host"}} {
		l := sample()
		first, second := Without(l, names...), Without(l, names...)
		want := slices.Clone(first)
		overwrite(second, api.Field{Name: "over", Value: "written"})
		if !slices.Equal(l, sample()) || !slices.Equal(first, want) {
			t.Errorf("Without %q: what is written into one answer is seen elsewhere", names)
		}
		overwrite(l, api.Field{Name: "over", Value: "written"})
		if !slices.Equal(first, want) {
			t.Errorf("Without %q: what is written into the list is seen in the answer", names)
		}
	}
	l := sample()
	first, second := Get(l, "host"), Get(l, "host")
	overwrite(second, "over")
	overwrite(l, api.Field{})
	if !slices.Equal(first, []string{"1", "2", "1", "1"}) {
		t.Errorf("Get: what is written into another list is seen in the answer: %q", first)
	}
}

// overwrite writes x all over l and its spare room.
func overwrite[T any](l []T, x T) {
	l = l[:cap(l)]
	for i := range l {
		l[i] = x
	}
}

// P5.1 and P5.2 with R5: what was asked before makes no difference.
func TestTheSameIsAnsweredAgain(t *testing.T) {
	for range 2 {
		if f, e := Parse("a:\x00"); f != (api.Field{}) || e != api.ErrForm {
			t.Errorf("%q, %v", f, e)
		}
		if f, e := Parse("b: c"); f != (api.Field{Name: "b", Value: "c"}) || e != api.OK {
			t.Errorf("%q, %v", f, e)
		}
		if line, e := Put(api.Field{Name: ":"}); line != "" || e != api.ErrArg {
			t.Errorf("%q, %v", line, e)
		}
		if line, e := Put(api.Field{Name: "b"}); line != "b:" || e != api.OK {
			t.Errorf("%q, %v", line, e)
		}
		if got := Get(sample(), "x-sum"); !slices.Equal(got, []string{"3"}) {
			t.Errorf("%q", got)
		}
		if got := Without(sample()[:2], "A"); !slices.Equal(got, sample()[:1]) {
			t.Errorf("%q", got)
		}
	}
}
