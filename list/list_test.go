package list

import (
	"math/big"
	"math/rand"
	"slices"
	"strconv"
	"strings"
	"testing"

	"catchpit/api"
)

// What the layer below answers is said here once more, so that the program's own calls are not asked what they should answer.
const (
	smallLetters = "abcdefghijklmnopqrstuvwxyz"
	greatLetters = "ABCDEFGHIJKLMNOPQRSTUVWXYZ"
	tokenBytes   = smallLetters + greatLetters + "0123456789" + "!#$%&'*+-.^_`|~"
)

const (
	greatest = "4611686018427387903" // MaxSize
	tooGreat = "4611686018427387904"
)

func wantBlank(c byte) bool { return c == 0x20 || c == 0x09 }

func wantTrim(s string) string {
	for s != "" && wantBlank(s[0]) {
		s = s[1:]
	}
	for s != "" && wantBlank(s[len(s)-1]) {
		s = s[:len(s)-1]
	}
	return s
}

func wantToken(s string) bool {
	for i := range len(s) {
		if strings.IndexByte(tokenBytes, s[i]) < 0 {
			return false
		}
	}
	return s != ""
}

func wantSmall(s string) string {
	b := []byte(s)
	for i := range b {
		if at := strings.IndexByte(greatLetters, b[i]); at >= 0 {
			b[i] = smallLetters[at]
		}
	}
	return string(b)
}

// wantItems goes byte by byte, by the chapter's words.
func wantItems(values ...string) []string {
	var items []string
	for _, value := range values {
		begin := 0
		for i := 0; i <= len(value); i++ {
			if i < len(value) && value[i] != 0x2c {
				continue
			}
			if item := wantTrim(value[begin:i]); item != "" {
				items = append(items, item)
			}
			begin = i + 1
		}
	}
	return items
}

// wantNames tells the items up to their first semicolons, trimmed.
func wantNames(values ...string) []string {
	var names []string
	for _, item := range wantItems(values...) {
		names = append(names, wantTrim(strings.SplitN(item, "\x3b", 2)[0]))
	}
	return names
}

func wantNumber(s string) (uint64, api.Errno) {
	for i := range len(s) {
		if s[i] < 0x30 || s[i] > 0x39 {
			return 0, api.ErrForm
		}
	}
	n, ok := new(big.Int).SetString(s, 10)
	switch {
	case !ok:
		return 0, api.ErrForm
	case n.BitLen() > 62:
		return 0, api.ErrBig
	}
	return n.Uint64(), api.OK
}

// wantLength asks one behind the other what P7.2 does, each of all values.
func wantLength(values ...string) (uint64, api.Errno) {
	if len(values) == 0 {
		return 0, api.ErrNone
	}
	errors := map[api.Errno]bool{}
	numbers := map[uint64]bool{}
	for _, value := range values {
		errors[api.ErrForm] = errors[api.ErrForm] || len(wantItems(value)) == 0
		for _, item := range wantItems(value) {
			n, e := wantNumber(item)
			errors[e] = true
			numbers[n] = true
		}
	}
	switch {
	case errors[api.ErrForm]:
		return 0, api.ErrForm
	case errors[api.ErrBig]:
		return 0, api.ErrBig
	case len(numbers) > 1:
		return 0, api.ErrForm
	}
	n, _ := wantNumber(wantItems(values[0])[0])
	return n, api.OK
}

func wantCodings(values ...string) ([]string, api.Errno) {
	if len(values) == 0 {
		return nil, api.ErrNone
	}
	names := wantNames(values...)
	if len(names) == 0 {
		return nil, api.ErrForm
	}
	for i, name := range names {
		if !wantToken(name) {
			return nil, api.ErrForm
		}
		names[i] = wantSmall(name)
	}
	return names, api.OK
}

func wantHas(word string, values ...string) bool {
	word = wantSmall(word)
	for _, name := range wantNames(values...) {
		if wantSmall(name) == word {
			return true
		}
	}
	return false
}

// checkValues holds what is told of the values, and of each text of them, against the chapter's words.
func checkValues(t *testing.T, values ...string) {
	t.Helper()
	if got, want := Items(values...), wantItems(values...); !slices.Equal(got, want) {
		t.Errorf("Items(%q) = %q, wanted %q", values, got, want)
	}
	n, e := Length(values...)
	if wantN, wantE := wantLength(values...); n != wantN || e != wantE {
		t.Errorf("Length(%q) = %d, %v, wanted %d, %v", values, n, e, wantN, wantE)
	}
	l, e := Codings(values...)
	if wantL, wantE := wantCodings(values...); !slices.Equal(l, wantL) || e != wantE {
		t.Errorf("Codings(%q) = %q, %v, wanted %q, %v", values, l, e, wantL, wantE)
	}
	for _, word := range append([]string{"a", "B", "aB", "", " a", "a;", "a,b"}, values...) {
		if got, want := Has(word, values...), wantHas(word, values...); got != want {
			t.Errorf("Has(%q, %q) = %v", word, values, got)
		}
	}
	for _, s := range values {
		checkNumber(t, s)
	}
}

func checkNumber(t *testing.T, s string) {
	t.Helper()
	n, e := Number(s)
	if wantN, wantE := wantNumber(s); n != wantN || e != wantE {
		t.Errorf("Number(%q) = %d, %v, wanted %d, %v", s, n, e, wantN, wantE)
	}
}

// everyText tells all texts of at most that many of the bytes.
func everyText(bytes string, most int) []string {
	all := []string{""}
	for begin := 0; most > 0; most-- {
		end := len(all)
		for _, s := range all[begin:end] {
			for i := range len(bytes) {
				all = append(all, s+bytes[i:i+1])
			}
		}
		begin = end
	}
	return all
}

// P7.1: items that are empty or blank are left out, wherever they stand.
func TestItems(t *testing.T) {
	for _, x := range []struct{ values, want []string }{
		{nil, nil},
		{[]string{}, nil},
		{[]string{""}, nil},
		{[]string{" "}, nil},
		{[]string{"\t"}, nil},
		{[]string{","}, nil},
		{[]string{",,,"}, nil},
		{[]string{" ,\t, \t ,"}, nil},
		{[]string{"", "", " "}, nil},
		{[]string{"a"}, []string{"a"}},
		{[]string{" a\t"}, []string{"a"}},
		{[]string{"a,b"}, []string{"a", "b"}},
		{[]string{"a , b"}, []string{"a", "b"}},
		{[]string{"\ta \t,\t b\t"}, []string{"a", "b"}},
		{[]string{",a"}, []string{"a"}},
		{[]string{"a,"}, []string{"a"}},
		{[]string{", a ,, \t,b, "}, []string{"a", "b"}},
		{[]string{"a", "b"}, []string{"a", "b"}},
		{[]string{"b", "a"}, []string{"b", "a"}},
		{[]string{"a", "", "b"}, []string{"a", "b"}},
		{[]string{",", "a,b", " ", "c", ","}, []string{"a", "b", "c"}},
		{[]string{"a,a", "A,a"}, []string{"a", "a", "A", "a"}},
		{[]string{"a b, c\td"}, []string{"a b", "c\td"}},
		{[]string{"a;q=1, b ; r"}, []string{"a;q=1", "b ; r"}},
		{[]string{";", " ; ,x"}, []string{";", ";", "x"}},
		// no quotes, and no other bytes between items
		{[]string{"a=\"b,c\""}, []string{"a=\"b", "c\""}},
		{[]string{"a\\,b"}, []string{"a\\", "b"}},
		{[]string{"\r\na\r\n,\va\f"}, []string{"\r\na\r\n", "\va\f"}},
		{[]string{"\x00, \xff,\xa0"}, []string{"\x00", "\xff", "\xa0"}},
		{[]string{"\u00a0a\u2003,\uff0c"}, []string{"\u00a0a\u2003", "\uff0c"}},
	} {
		if got := Items(x.values...); !slices.Equal(got, x.want) {
			t.Errorf("Items(%q) = %q, wanted %q", x.values, got, x.want)
		}
		checkValues(t, x.values...)
	}
}

// P7.1
func TestNumber(t *testing.T) {
	for _, x := range []struct {
		s    string
		want uint64
	}{
		{"0", 0},
		{"1", 1},
		{"2", 2},
		{"3", 3},
		{"4", 4},
		{"5", 5},
		{"6", 6},
		{"7", 7},
		{"8", 8},
		{"9", 9},
		{"10", 10},
		{"00", 0},
		{"007", 7},
		{"0123456789", 123456789},
		{"9876543210", 9876543210},
		{"4294967296", 1 << 32},
		{"9999999999", 9999999999},
		{"461168601842738790", 461168601842738790},
		{"999999999999999999", 999999999999999999},
		{"4611686018427387902", 1<<62 - 2},
		{greatest, api.MaxSize},
		{"0" + greatest, api.MaxSize},
		{strings.Repeat("0", 5000), 0},
		{strings.Repeat("0", 5000) + "8", 8},
		{strings.Repeat("0", 5000) + greatest, api.MaxSize},
	} {
		if n, e := Number(x.s); n != x.want || e != api.OK {
			t.Errorf("Number(%q) = %d, %v, wanted %d", x.s, n, e, x.want)
		}
	}
}

// P7.1
func TestNumberTooGreat(t *testing.T) {
	for _, s := range []string{
		tooGreat,
		"4611686018427387905",
		"4611686018427387910",
		"4611686018427388000",
		"4700000000000000000",
		"9223372036854775807",
		"9223372036854775808",
		"9999999999999999999",
		"10000000000000000000",
		"18446744073709551615",
		"18446744073709551616", // 2^64, nought if it went round
		"18446744073709551617",
		"36893488147419103237", // 2^65 + 5
		"46116860184273879030",
		"99999999999999999999999",
		"340282366920938463463374607431768211456", // 2^128
		"1" + strings.Repeat("0", 5000),
		strings.Repeat("9", 5000),
	} {
		for _, text := range []string{s, "0" + s, strings.Repeat("0", 5000) + s} {
			if n, e := Number(text); n != 0 || e != api.ErrBig {
				t.Errorf("Number(%q) = %d, %v, wanted ErrBig", text, n, e)
			}
		}
	}
}

// P7.1: a wrong byte counts ahead of the size, and nothing is trimmed.
func TestNumberRefuses(t *testing.T) {
	for _, s := range []string{
		"", " ", ",", "-", "+", "x", "a", "f",
		" 5", "5 ", "\t5", "5\t", "5\r", "5\n", "5,", ",5", "5;", "5,5", "5 6",
		"+5", "-5", "-0", "5.", "5.0", ".5", "5e1", "0x5", "0b1", "0o7", "1_000", "5a", "a5", "5-",
		"5\x00", "\x005", "/", ":", "5/", "5:", "\xb5", "5\xff",
		"\u0665", "\uff15", "\u00b2",
		tooGreat + "x", "x" + tooGreat, tooGreat + " ", "-" + tooGreat, greatest + ".",
		strings.Repeat("9", 5000) + "-", strings.Repeat("0", 5000) + "x",
	} {
		if n, e := Number(s); n != 0 || e != api.ErrForm {
			t.Errorf("Number(%q) = %d, %v, wanted ErrForm", s, n, e)
		}
	}
}

// P7.1: around every power of two and of ten, and around MaxSize.
func TestNumberAtTheEdges(t *testing.T) {
	one, ten := big.NewInt(1), big.NewInt(10)
	around := func(n *big.Int) {
		for by := int64(-12); by <= 12; by++ {
			if near := new(big.Int).Add(n, big.NewInt(by)); near.Sign() >= 0 {
				checkNumber(t, near.String())
				checkNumber(t, "000"+near.String())
				checkNumber(t, near.String()+"x")
			}
		}
	}
	for i := range 200 {
		around(new(big.Int).Lsh(one, uint(i)))
		around(new(big.Int).Exp(ten, big.NewInt(int64(i)), nil))
	}
	r := rand.New(rand.NewSource(7))
	for range 20000 {
		checkNumber(t, strconv.FormatUint(r.Uint64()>>r.Intn(64), 10))
	}
}

// P7.1: every byte, at each place of a length's text.
func TestNumberOfEachByteAtEachPlace(t *testing.T) {
	for i := range 256 {
		c := string([]byte{byte(i)})
		for _, s := range []string{c, c + "1", "1" + c, "1" + c + "2", greatest + c, tooGreat + c, c + greatest} {
			checkNumber(t, s)
		}
	}
}

// lengths tells lists of values with what P7.2 says of each.
func lengths() []struct {
	values []string
	n      uint64
	e      api.Errno
} {
	return []struct {
		values []string
		n      uint64
		e      api.Errno
	}{
		{nil, 0, api.ErrNone},
		{[]string{}, 0, api.ErrNone},
		// the same, said once or more
		{[]string{"0"}, 0, api.OK},
		{[]string{"5"}, 5, api.OK},
		{[]string{" 5\t"}, 5, api.OK},
		{[]string{",5"}, 5, api.OK},
		{[]string{"5, "}, 5, api.OK},
		{[]string{"5, 5"}, 5, api.OK},
		{[]string{"5", "5, 5"}, 5, api.OK},
		{[]string{"5", "5", "005,,05"}, 5, api.OK},
		{[]string{"0,00", "000"}, 0, api.OK},
		{[]string{greatest, "0" + greatest}, api.MaxSize, api.OK},
		// a value without items, wherever it stands
		{[]string{""}, 0, api.ErrForm},
		{[]string{" \t"}, 0, api.ErrForm},
		{[]string{","}, 0, api.ErrForm},
		{[]string{" , \t,"}, 0, api.ErrForm},
		{[]string{"", "5"}, 0, api.ErrForm},
		{[]string{"5", ""}, 0, api.ErrForm},
		{[]string{"5", ",", "5"}, 0, api.ErrForm},
		{[]string{"5", "5", " "}, 0, api.ErrForm},
		{[]string{"", ""}, 0, api.ErrForm},
		// an item that is no length's text
		{[]string{"x"}, 0, api.ErrForm},
		{[]string{"-5"}, 0, api.ErrForm},
		{[]string{"+5"}, 0, api.ErrForm},
		{[]string{"0x5"}, 0, api.ErrForm},
		{[]string{"5 5"}, 0, api.ErrForm},
		{[]string{"5;5"}, 0, api.ErrForm},
		{[]string{"5;"}, 0, api.ErrForm},
		{[]string{"5\r"}, 0, api.ErrForm},
		{[]string{"5.0"}, 0, api.ErrForm},
		{[]string{"5,x"}, 0, api.ErrForm},
		{[]string{"x,5"}, 0, api.ErrForm},
		{[]string{"5", "5,x,5"}, 0, api.ErrForm},
		{[]string{"5", "x", "5"}, 0, api.ErrForm},
		// an item that is too great
		{[]string{tooGreat}, 0, api.ErrBig},
		{[]string{"00" + tooGreat}, 0, api.ErrBig},
		{[]string{"18446744073709551621"}, 0, api.ErrBig},
		{[]string{tooGreat, tooGreat}, 0, api.ErrBig},
		{[]string{"5", "18446744073709551621"}, 0, api.ErrBig},
		{[]string{"0", tooGreat}, 0, api.ErrBig},
		{[]string{tooGreat, "0"}, 0, api.ErrBig},
		{[]string{greatest + "," + tooGreat}, 0, api.ErrBig},
		// unlike numbers
		{[]string{"5", "6"}, 0, api.ErrForm},
		{[]string{"6", "5"}, 0, api.ErrForm},
		{[]string{"5,6"}, 0, api.ErrForm},
		{[]string{"5, 5", "5, 6"}, 0, api.ErrForm},
		{[]string{"5,6,5"}, 0, api.ErrForm},
		{[]string{"0", "1"}, 0, api.ErrForm},
		{[]string{"1", "0"}, 0, api.ErrForm},
		{[]string{"5", "50"}, 0, api.ErrForm},
		{[]string{greatest, "4611686018427387902"}, 0, api.ErrForm},
		{[]string{greatest, "0"}, 0, api.ErrForm},
		// of several errors: the form ahead of the size, the size ahead of unlike numbers
		{[]string{tooGreat, "x"}, 0, api.ErrForm},
		{[]string{"x", tooGreat}, 0, api.ErrForm},
		{[]string{tooGreat + ",x"}, 0, api.ErrForm},
		{[]string{tooGreat, ""}, 0, api.ErrForm},
		{[]string{",", tooGreat}, 0, api.ErrForm},
		{[]string{tooGreat, "5", tooGreat, " "}, 0, api.ErrForm},
		{[]string{"5", "6", tooGreat}, 0, api.ErrBig},
		{[]string{"5, 6, " + tooGreat}, 0, api.ErrBig},
		{[]string{tooGreat, "5", "6"}, 0, api.ErrBig},
		{[]string{"5", tooGreat, "6"}, 0, api.ErrBig},
		{[]string{"5", "6", tooGreat, "x"}, 0, api.ErrForm},
	}
}

// P7.2
func TestLength(t *testing.T) {
	for _, x := range lengths() {
		if n, e := Length(x.values...); n != x.n || e != x.e {
			t.Errorf("Length(%q) = %d, %v, wanted %d, %v", x.values, n, e, x.n, x.e)
		}
		checkValues(t, x.values...)
	}
}

// codings tells lists of values with what P7.3 says of each.
func codings() []struct {
	values, want []string
	e            api.Errno
} {
	return []struct {
		values, want []string
		e            api.Errno
	}{
		{nil, nil, api.ErrNone},
		{[]string{}, nil, api.ErrNone},
		{[]string{"chunked"}, []string{"chunked"}, api.OK},
		{[]string{"CHUNKED"}, []string{"chunked"}, api.OK},
		{[]string{"gzip;q=1, Chunked"}, []string{"gzip", "chunked"}, api.OK},
		{[]string{"gzip", "Chunked"}, []string{"gzip", "chunked"}, api.OK},
		{[]string{"Chunked", "gzip"}, []string{"chunked", "gzip"}, api.OK},
		{[]string{"chunked,chunked", "Chunked"}, []string{"chunked", "chunked", "chunked"}, api.OK},
		{[]string{tokenBytes}, []string{smallLetters + smallLetters + tokenBytes[52:]}, api.OK},
		// values without items stand against nothing, as long as there is one item
		{[]string{"", "gzip"}, []string{"gzip"}, api.OK},
		{[]string{"gzip", ","}, []string{"gzip"}, api.OK},
		{[]string{" ,gzip,\t,", " ", "x,"}, []string{"gzip", "x"}, api.OK},
		// semicolons: up to the first one, and what stands behind it is not asked
		{[]string{"gzip;"}, []string{"gzip"}, api.OK},
		{[]string{"gzip ;"}, []string{"gzip"}, api.OK},
		{[]string{" gzip\t; q = 1 ; r"}, []string{"gzip"}, api.OK},
		{[]string{"gzip;;;"}, []string{"gzip"}, api.OK},
		{[]string{"gzip;a b\x00\xff"}, []string{"gzip"}, api.OK},
		{[]string{"gzip;q=\"a,b\""}, nil, api.ErrForm},
		{[]string{"gzip;q=\"a, b;c\""}, []string{"gzip", "b"}, api.OK},
		{[]string{"x ; q=\"a", "b"}, []string{"x", "b"}, api.OK},
		// no items
		{[]string{""}, nil, api.ErrForm},
		{[]string{" , \t"}, nil, api.ErrForm},
		{[]string{",", "", " "}, nil, api.ErrForm},
		// no token
		{[]string{"a b"}, nil, api.ErrForm},
		{[]string{"a\tb"}, nil, api.ErrForm},
		{[]string{"a b;q"}, nil, api.ErrForm},
		{[]string{";"}, nil, api.ErrForm},
		{[]string{";q"}, nil, api.ErrForm},
		{[]string{" ;q"}, nil, api.ErrForm},
		{[]string{"gzip", ";q"}, nil, api.ErrForm},
		{[]string{"gzip, ;q"}, nil, api.ErrForm},
		{[]string{";q, gzip"}, nil, api.ErrForm},
		{[]string{"gzip, a/b"}, nil, api.ErrForm},
		{[]string{"a/b, gzip"}, nil, api.ErrForm},
		{[]string{"a/b", "gzip"}, nil, api.ErrForm},
		{[]string{"gzip", "a/b", "chunked"}, nil, api.ErrForm},
		{[]string{"gzip\r"}, nil, api.ErrForm},
		{[]string{"gzip=1"}, nil, api.ErrForm},
		{[]string{"\"gzip\""}, nil, api.ErrForm},
		{[]string{"gzip\x00"}, nil, api.ErrForm},
		{[]string{"\u00e4"}, nil, api.ErrForm},
		{[]string{"\u212a"}, nil, api.ErrForm},
	}
}

// P7.3
func TestCodings(t *testing.T) {
	for _, x := range codings() {
		if l, e := Codings(x.values...); !slices.Equal(l, x.want) || e != x.e {
			t.Errorf("Codings(%q) = %q, %v, wanted %q, %v", x.values, l, e, x.want, x.e)
		}
		checkValues(t, x.values...)
	}
}

// P7.3: every byte, at each place of an item.
func TestEachByteAtEachPlace(t *testing.T) {
	for i := range 256 {
		c := string([]byte{byte(i)})
		for _, value := range []string{c, c + "a", "a" + c, "a" + c + "b", "a;" + c, "a;" + c + "b", "a ;b" + c + "c", "a," + c, "1" + c + "1", "1, " + c + "1"} {
			checkValues(t, value)
			checkValues(t, "a", value)
			checkValues(t, value, "1")
		}
		for j := range 256 {
			d := string([]byte{byte(j)})
			if got, want := Has("x"+c, "X"+d), wantHas("x"+c, "X"+d); got != want {
				t.Errorf("Has(%q, %q) = %v", "x"+c, "X"+d, got)
			}
		}
	}
}

// P7.3: the word is taken as it is, the items are not.
func TestHas(t *testing.T) {
	for _, x := range []struct {
		word   string
		values []string
		want   bool
	}{
		{"close", nil, false},
		{"", nil, false},
		{"close", []string{""}, false},
		{"", []string{""}, false},
		{"", []string{" , "}, false},
		{"close", []string{"close"}, true},
		{"close", []string{"CLOSE"}, true},
		{"CLOSE", []string{"close"}, true},
		{"cLOSe", []string{"ClosE"}, true},
		{"close", []string{"\tclose "}, true},
		{"close", []string{"keep-alive, close"}, true},
		{"close", []string{"close, keep-alive"}, true},
		{"close", []string{"a,Close,b"}, true},
		{"close", []string{"keep-alive", "close"}, true},
		{"close", []string{"close", "keep-alive"}, true},
		{"close", []string{"", "a", ",", "b, close", "c"}, true},
		{"close", []string{"close;q=1"}, true},
		{"close", []string{"close ;"}, true},
		{"close", []string{"a; close"}, false},
		{"close", []string{"a;close", ";close"}, false},
		{"close", []string{"closed"}, false},
		{"close", []string{"clos"}, false},
		{"close", []string{"lose"}, false},
		{"close", []string{"clo se"}, false},
		{"close", []string{"clo", "se"}, false},
		{"close", []string{"clo,se"}, false},
		{"close", []string{"\"close\""}, false},
		{"close", []string{"close\r"}, false},
		{"close", []string{"keep-alive"}, false},
		{"100-continue", []string{"100-Continue"}, true},
		{"100-continue", []string{"100_continue"}, false},
		// the word is neither trimmed nor parted
		{" close", []string{"close", " close"}, false},
		{"close ", []string{"close", "close "}, false},
		{"close;", []string{"close;"}, false},
		{"close;q", []string{"close;q"}, false},
		{"a,b", []string{"a,b"}, false},
		{"a b", []string{"A B"}, true},
		{"a/b", []string{"c, A/B;d"}, true},
		// an item may have nothing ahead of its semicolon
		{"", []string{"a"}, false},
		{"", []string{"a;"}, false},
		{"", []string{";"}, true},
		{"", []string{"a, ;q"}, true},
		// letters beyond ASCII have no other size
		{"k", []string{"\u212a"}, false},
		{"\u00e4", []string{"\u00c4"}, false},
		{"\u00e4", []string{"\u00e4"}, true},
		{"\xe4", []string{"\xc4"}, false},
		{"\xff", []string{"\xfe"}, false},
		{"@", []string{"`"}, false},
		{"[", []string{"{"}, false},
	} {
		if got := Has(x.word, x.values...); got != x.want {
			t.Errorf("Has(%q, %q) = %v", x.word, x.values, got)
		}
	}
}

// P7.1 to P7.3: all short values, and all short lists of shorter ones.
func TestEveryShortList(t *testing.T) {
	for _, value := range everyText("aB1, ;/", 5) {
		checkValues(t, value)
	}
	short := everyText("a1,; ", 2)
	for _, one := range short {
		for _, two := range short {
			checkValues(t, one, two)
			for _, three := range []string{"", "1", "2", "a", tooGreat, ","} {
				checkValues(t, one, two, three)
				checkValues(t, three, one, two)
			}
		}
	}
}

// P7.2: all short lists of lengths of all kinds, in one value and in several.
func TestEveryShortListOfLengths(t *testing.T) {
	kinds := []string{"5", "05", "6", "0", greatest, tooGreat, "x", ""}
	for _, places := range everyText("\x00\x01\x02\x03\x04\x05\x06\x07", 4) {
		values := []string{}
		for i := range len(places) {
			values = append(values, kinds[places[i]])
		}
		checkValues(t, values...)
		checkValues(t, strings.Join(values, ", "))
		if len(values) > 1 {
			checkValues(t, strings.Join(values[:2], ","), strings.Join(values[2:], ","))
		}
	}
}

// P7.1 to P7.3: no length, and no number of items or values, is too great.
func TestLongLists(t *testing.T) {
	const many = 70000
	value := strings.Repeat(" 7 ,", many)
	values := slices.Repeat([]string{"7"}, many)
	checkValues(t, value)
	checkValues(t, value, value+"x")
	checkValues(t, value+"8")
	checkValues(t, strings.Repeat(",", many))
	checkValues(t, strings.Repeat("A", many)+strings.Repeat(" ", many)+";"+strings.Repeat("\t", many))
	if l := Items(values...); !slices.Equal(l, values) {
		t.Error(len(l))
	}
	if n, e := Length(values...); n != 7 || e != api.OK {
		t.Error(n, e)
	}
	if l, e := Codings(values...); !slices.Equal(l, values) || e != api.OK {
		t.Error(len(l), e)
	}
	if !Has("x", append(values, "X")...) || Has("x", values...) {
		t.Error("has")
	}
}

// P7.1 to P7.3 with R4: what is handed in stays as it is, spare room included.
func TestNothingHandedInIsChanged(t *testing.T) {
	for _, list := range [][]string{
		{" A ;x, b,,", "5", "Close"},
		{"5,05", " 5 ", "5"},
		{"", "a/b", tooGreat},
	} {
		whole := append(slices.Clone(list), "spare", "room")
		want := slices.Clone(whole)
		Items(whole[:3]...)
		Length(whole[:3]...)
		Codings(whole[:3]...)
		Has("close", whole[:3]...)
		if !slices.Equal(whole, want) {
			t.Errorf("the values became %q, they were %q", whole, want)
		}
	}
}

// P7.1 and P7.3 with R4: what is written into an answer, its spare room too, or into the values, is seen nowhere else.
func TestAnswersAreNewMemory(t *testing.T) {
	values := []string{"a", "b", "c"}
	want := slices.Clone(values)
	items, others := Items(values...), Items(values...)
	codings, _ := Codings(values...)
	otherCodings, _ := Codings(values...)
	overwrite(others)
	overwrite(otherCodings)
	if !slices.Equal(values, want) {
		t.Errorf("the values became %q", values)
	}
	overwrite(values)
	if !slices.Equal(items, want) || !slices.Equal(codings, want) {
		t.Errorf("%q and %q, wanted %q", items, codings, want)
	}
}

// overwrite writes all over l and its spare room.
func overwrite(l []string) {
	l = l[:cap(l)]
	for i := range l {
		l[i] = "over"
	}
}

// P7.1 to P7.3 with R5: what was asked before makes no difference.
func TestTheSameIsAnsweredAgain(t *testing.T) {
	for range 2 {
		for _, x := range lengths() {
			if n, e := Length(x.values...); n != x.n || e != x.e {
				t.Errorf("Length(%q) = %d, %v, wanted %d, %v", x.values, n, e, x.n, x.e)
			}
		}
		for _, x := range codings() {
			if l, e := Codings(x.values...); !slices.Equal(l, x.want) || e != x.e {
				t.Errorf("Codings(%q) = %q, %v, wanted %q, %v", x.values, l, e, x.want, x.e)
			}
		}
		if Has("a", "b") || !Has("a", "b,A") || Has("a") {
			t.Error("has")
		}
	}
}

// The iterator within, with R6: it stops when it is asked to, and begins anew each time.
func TestItemsOf(t *testing.T) {
	it := itemsOf(" a, b ,,c")
	want := []string{"a", "b", "c"}
	for n := 1; n <= len(want); n++ {
		var got []string
		it(func(item string) bool {
			got = append(got, item)
			return len(got) < n
		})
		if !slices.Equal(got, want[:n]) {
			t.Errorf("asked to stop behind %d: %q", n, got)
		}
	}
	if got := slices.Collect(it); !slices.Equal(got, want) {
		t.Errorf("gone through again: %q", got)
	}
}
