package hexa

import (
	"strings"
	"testing"

	"catchpit/api"
)

// In each list the place of a digit is its value.
const (
	smallDigits = "0123456789abcdef"
	greatDigits = "0123456789ABCDEF"
)

// wantDigit looks the value up in the lists, so that no rule of the program's own is repeated here.
func wantDigit(c byte) int {
	if v := strings.IndexByte(smallDigits, c); v >= 0 {
		return v
	}
	return strings.IndexByte(greatDigits, c)
}

// P1.1
func TestDigitOfEveryByte(t *testing.T) {
	digits := 0
	for c := range 256 {
		got := Digit(byte(c))
		if want := wantDigit(byte(c)); got != want {
			t.Errorf("Digit(%#x) = %d, want %d", c, got, want)
		}
		if got >= 0 {
			digits++
		}
	}
	if digits != 22 {
		t.Errorf("%d bytes are digits, want 22", digits)
	}
}

// P1.1
func TestPutIsShortestInSmallLetters(t *testing.T) {
	for _, c := range []struct {
		n    uint64
		want string
	}{
		{0, "0"},
		{1, "1"},
		{9, "9"},
		{10, "a"},
		{15, "f"},
		{16, "10"},
		{26, "1a"},
		{255, "ff"},
		{256, "100"},
		{0xabcdef, "abcdef"},
		{api.MaxSize, "3fffffffffffffff"},
		{api.MaxSize + 1, "4000000000000000"},
		{1<<63 - 1, "7fffffffffffffff"},
		{1 << 63, "8000000000000000"},
		{1<<64 - 1, "ffffffffffffffff"},
	} {
		if got := Put(c.n); got != c.want {
			t.Errorf("Put(%d) = %q, want %q", c.n, got, c.want)
		}
	}
}

// P1.1
func TestDigitsCountsTheBeginning(t *testing.T) {
	for _, c := range []struct {
		s    string
		want int
	}{
		{"", 0},
		{"0", 1},
		{"g", 0},
		{" 1", 0},
		{"-1", 0},
		{"0x1", 1},
		{"1a;", 2},
		{"AbC", 3},
		{"12g34", 2},
		{"1\x00", 1},
		{"1\xff2", 1},
		{"a\r\n", 1},
		{smallDigits + greatDigits, 32},
		{strings.Repeat("0", 5000) + "z0", 5000},
	} {
		if got := Digits(c.s); got != c.want {
			t.Errorf("Digits(%q) = %d, want %d", c.s, got, c.want)
		}
	}
}

// P1.2
func TestMoreAtItsEdges(t *testing.T) {
	for _, c := range []struct {
		n    uint64
		c    byte
		want uint64
		e    api.Errno
	}{
		{0, '0', 0, api.OK},
		{0, '9', 9, api.OK},
		{0, 'a', 10, api.OK},
		{0, 'F', 15, api.OK},
		{1, 'f', 31, api.OK},
		{1, 'F', 31, api.OK},
		{0x1234, '5', 0x12345, api.OK},
		{1<<58 - 1, '0', 1<<62 - 16, api.OK},
		{1<<58 - 1, 'f', api.MaxSize, api.OK},
		{1 << 58, '0', 0, api.ErrBig},
		{1 << 58, 'f', 0, api.ErrBig},
		{1 << 60, '0', 0, api.ErrBig},
		{1<<60 + 1, '1', 0, api.ErrBig},
		{api.MaxSize, '0', 0, api.ErrBig},
		{api.MaxSize + 1, '0', 0, api.ErrBig},
		{1 << 63, '1', 0, api.ErrBig},
		{1<<64 - 1, 'f', 0, api.ErrBig},
		{0, 'g', 0, api.ErrForm},
		{5, ' ', 0, api.ErrForm},
		{1 << 58, 'g', 0, api.ErrForm},
		{api.MaxSize + 1, 0, 0, api.ErrForm},
		{1<<64 - 1, 'x', 0, api.ErrForm},
	} {
		if got, e := More(c.n, c.c); got != c.want || e != c.e {
			t.Errorf("More(%#x, %q) = %#x, %d, want %#x, %d", c.n, c.c, got, int(e), c.want, int(c.e))
		}
	}
}

// P1.2
func TestMoreOfEveryByte(t *testing.T) {
	for c := range 256 {
		want, wantErr := uint64(0), api.ErrForm
		if d := wantDigit(byte(c)); d >= 0 {
			want, wantErr = 0x70+uint64(d), api.OK
		}
		if got, e := More(7, byte(c)); got != want || e != wantErr {
			t.Errorf("More(7, %#x) = %#x, %d, want %#x, %d", c, got, int(e), want, int(wantErr))
		}
	}
}

// P1.2
func TestParseOfSizes(t *testing.T) {
	noughts := strings.Repeat("0", 1000)
	for _, c := range []struct {
		s    string
		want uint64
	}{
		{"0", 0},
		{"000", 0},
		{noughts, 0},
		{"1", 1},
		{"a", 10},
		{"A", 10},
		{"1a", 26},
		{"1A", 26},
		{"00FF", 255},
		{"fF", 255},
		{"10", 16},
		{"DeadBeef", 0xdeadbeef},
		{noughts + "1", 1},
		{"3ffffffffffffffe", api.MaxSize - 1},
		{"3fffffffffffffff", api.MaxSize},
		{"3FFFFFFFFFFFFFFF", api.MaxSize},
		{noughts + "3fffffffffffffff", api.MaxSize},
	} {
		if got, e := Parse(c.s); got != c.want || e != api.OK {
			t.Errorf("Parse(%q) = %#x, %d, want %#x, 0", c.s, got, int(e), c.want)
		}
	}
}

// P1.2
func TestParseRefuses(t *testing.T) {
	noughts := strings.Repeat("0", 1000)
	for _, c := range []struct {
		s    string
		want api.Errno
	}{
		{"", api.ErrForm},
		{" ", api.ErrForm},
		{"g", api.ErrForm},
		{"1 ", api.ErrForm},
		{" 1", api.ErrForm},
		{"+1", api.ErrForm},
		{"-1", api.ErrForm},
		{"0x1", api.ErrForm},
		{"1_0", api.ErrForm},
		{"1\r\n", api.ErrForm},
		{"1\x00", api.ErrForm},
		{"\u0661", api.ErrForm},
		{"4000000000000000", api.ErrBig},
		{noughts + "4000000000000000", api.ErrBig},
		{"7fffffffffffffff", api.ErrBig},
		{"8000000000000000", api.ErrBig},
		{"ffffffffffffffff", api.ErrBig},
		{"10000000000000000", api.ErrBig},
		{"10000000000000001", api.ErrBig},
		{"1" + noughts, api.ErrBig},
		{strings.Repeat("f", 1000), api.ErrBig},
		{"4000000000000000g", api.ErrForm},
		{"1" + noughts + " ", api.ErrForm},
	} {
		if got, e := Parse(c.s); got != 0 || e != c.want {
			t.Errorf("Parse(%q) = %#x, %d, want 0, %d", c.s, got, int(e), int(c.want))
		}
	}
}

// P1.3
func TestWhatIsPutIsParsedAsItWas(t *testing.T) {
	for shift := range 64 {
		power := uint64(1) << shift
		for _, n := range []uint64{power - 1, power, power + 1, power | 0x5a5a5a5a5a5a5a5a>>(63-shift)} {
			checkRoundTrip(t, n)
		}
	}
	for n := range uint64(70000) {
		checkRoundTrip(t, n)
		checkRoundTrip(t, n*0x9e3779b97f4a7c15)
		checkRoundTrip(t, api.MaxSize-n)
	}
	checkRoundTrip(t, 1<<64-1)
}

func checkRoundTrip(t *testing.T, n uint64) {
	t.Helper()
	want, wantErr := n, api.OK
	if n > api.MaxSize {
		want, wantErr = 0, api.ErrBig
	}
	text := Put(n)
	for _, s := range []string{text, strings.ToUpper(text), "00" + text} {
		if got, e := Parse(s); got != want || e != wantErr {
			t.Errorf("Parse(%q) = %#x, %d, want %#x, %d", s, got, int(e), want, int(wantErr))
		}
	}
	if Digits(text) != len(text) || len(text) > 1 && text[0] == '0' {
		t.Errorf("Put(%d) = %q is no shortest text", n, text)
	}
}
