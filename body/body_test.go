package body

import (
	"bytes"
	"fmt"
	"math"
	"math/big"
	"math/rand"
	"regexp"
	"slices"
	"strconv"
	"strings"
	"sync"
	"testing"

	"catchpit/api"
)

// The grammar is said here once more, by patterns over whole texts, so that neither the program nor the layers below it are asked what they should answer. Each byte is handed to them as the rune of its number.
const (
	digitBytes = `[0-9a-fA-F]`
	tokenBytes = "[A-Za-z0-9!#$%&'*+.^_`|~-]"
	textBytes  = `[\x09\x20-\x7e\x{80}-\x{ff}]`
	fieldLine  = tokenBytes + `+:` + textBytes + `*\r\n`
)

var (
	sizeLine     = regexp.MustCompile(`^(` + digitBytes + `{1,16})(;` + textBytes + `*)?\r\n`)
	sizeLineCut  = regexp.MustCompile(`^(` + digitBytes + `{0,16})$|^(` + digitBytes + `{1,16})(;` + textBytes + `*)?\r?$`)
	extensionCut = regexp.MustCompile(`^` + digitBytes + `{1,16}(;` + textBytes + `*)$`)
	digitsOnly   = regexp.MustCompile(`^` + digitBytes + `+$`)
	section      = regexp.MustCompile(`^(?:` + fieldLine + `)*\r\n`)
	sectionCut   = regexp.MustCompile(`^(?:` + fieldLine + `)*(?:\r|` + tokenBytes + `+|` + tokenBytes + `+:` + textBytes + `*\r?)?$`)
	linesCut     = regexp.MustCompile(`^(?:` + fieldLine + `)*(?:` + tokenBytes + `+|` + tokenBytes + `+:` + textBytes + `*\r?)?$`)
	oneLine      = regexp.MustCompile(fieldLine)
)

// runes tells a text with one rune for each byte of s.
func runes(s string) string {
	r := make([]rune, len(s))
	for i := range len(s) {
		r[i] = rune(s[i])
	}
	return string(r)
}

// match tells what a pattern finds at the beginning of s, as bytes of s.
func match(p *regexp.Regexp, s string) (string, bool) {
	found := p.FindString(runes(s))
	n := len([]rune(found))
	return s[:n], found != "" || p.MatchString(runes(s))
}

func tooGreat(digits string) bool {
	n, ok := new(big.Int).SetString(digits, 16)
	return ok && n.BitLen() > 62
}

func digitsOf(s string) string {
	end := 0
	for end < len(s) && strings.IndexByte("0123456789abcdefABCDEF", s[end]) >= 0 {
		end++
	}
	return s[:end]
}

// parts is what a beginning of a body is made of.
type parts struct {
	data string // of all chunks, the last one's as far as it goes
	line string // what stands of the line of a size, if it isn't whole
	rest string // what stands behind the line of the size 0, if that is whole
	last bool   // is that line whole?
	goes bool   // does all of it go on so far?
	done bool   // is it a body, with nothing behind it?
}

// partsOf takes chunk by chunk off the text.
func partsOf(s string) (p parts) {
	for {
		line, whole := match(sizeLine, s)
		if !whole {
			_, cut := match(sizeLineCut, s)
			p.line, p.goes = s, cut && !tooGreat(digitsOf(s))
			return p
		}
		if tooGreat(digitsOf(line)) {
			return p
		}
		size, _ := new(big.Int).SetString(digitsOf(line), 16)
		s = s[len(line):]
		if size.Sign() == 0 {
			p.last, p.rest = true, s
			found, is := match(section, s)
			_, cut := match(sectionCut, s)
			p.done = is && len(found) == len(s)
			p.goes = p.done || cut
			return p
		}
		if big.NewInt(int64(len(s))).Cmp(size) <= 0 {
			p.data, p.goes = p.data+s, true
			return p
		}
		p.data += s[:size.Int64()]
		s = s[size.Int64():]
		if !strings.HasPrefix(s, "\r\n") {
			p.goes = s == "\r"
			return p
		}
		s = s[2:]
		if s == "" {
			p.goes = true
			return p
		}
	}
}

// bigAtItsEnd tells whether the last byte of s is the 17th digit of a size, or makes its number too great.
func bigAtItsEnd(s string) bool {
	line := partsOf(s).line
	_, all := match(digitsOnly, line)
	return all && (len(line) == 17 || tooGreat(line) && !tooGreat("0"+line[:len(line)-1]))
}

// beyondAtItsEnd tells whether the last byte of s, which goes on so far, is beyond the limits.
func beyondAtItsEnd(s string, l api.Limits) bool {
	p := partsOf(s)
	if p.last {
		_, lines := match(linesCut, p.rest)
		whole := oneLine.FindAllString(runes(p.rest), -1)
		count, size := len(whole), 0
		for _, line := range whole {
			size += len([]rune(line))
		}
		first := lines && size+1 == len(p.rest)
		return lines && p.rest != "" && (len(p.rest) > l.Bytes || first && count == l.Fields)
	}
	_, cut := match(extensionCut, p.line)
	return cut && len(p.line)-len(digitsOf(p.line)) > l.Ext
}

// wantScan goes byte by byte, and asks of each what P8.1 does, in its order.
func wantScan(s string, l api.Limits) (b Body, at int, e api.Errno) {
	for _, limit := range []int{l.Ext, l.Fields, l.Bytes} {
		if limit < 0 || limit > 65536 {
			return Body{}, 0, api.ErrArg
		}
	}
	for at := range len(s) {
		upTo := s[:at+1]
		p := partsOf(upTo)
		switch {
		case bigAtItsEnd(upTo):
			return Body{}, at, api.ErrBig
		case !p.goes:
			return Body{}, at, api.ErrForm
		case beyondAtItsEnd(upTo, l):
			return Body{}, at, api.ErrLimit
		case p.done:
			return Body{Data: []byte(p.data), Fields: wantFields(p.rest), Size: at + 1}, at + 1, api.OK
		}
	}
	return Body{}, len(s), api.ErrMore
}

func wantFields(section string) (l []api.Field) {
	for _, line := range strings.Split(section, "\r\n") {
		if name, value, is := strings.Cut(line, ":"); is {
			l = append(l, api.Field{Name: name, Value: strings.Trim(value, " \t")})
		}
	}
	return l
}

// wantPayload tells the data ahead of the place that Scan tells, by P8.2.
func wantPayload(s string, at int, e api.Errno) string {
	if e == api.ErrArg {
		return ""
	}
	return partsOf(s[:at]).data
}

func wantSame(a, b Body) bool {
	return a.Size == b.Size && string(a.Data) == string(b.Data) && slices.Equal(a.Fields, b.Fields)
}

// check holds what is told of a text against the chapter's words.
func check(t *testing.T, s string, l api.Limits) {
	t.Helper()
	want, wantAt, wantE := wantScan(s, l)
	b, at, e := Scan([]byte(s), l)
	if !wantSame(b, want) || at != wantAt || e != wantE {
		t.Errorf("Scan(%q, %v) = %s, %d, %v, wanted %s, %d, %v", s, l, show(b), at, e, show(want), wantAt, wantE)
	}
	if got, want := string(Payload([]byte(s), l)), wantPayload(s, wantAt, wantE); got != want {
		t.Errorf("Payload(%q, %v) = %q, wanted %q", s, l, got, want)
	}
}

// show tells a body for a message.
func show(b Body) string {
	return fmt.Sprintf("%q, %q, size %d", b.Data, b.Fields, b.Size)
}

func f(name, value string) api.Field { return api.Field{Name: name, Value: value} }

var (
	noLimits = api.Limits{}
	wide     = api.Limits{Ext: api.MaxLimit, Fields: api.MaxLimit, Bytes: api.MaxLimit}
	narrow   = api.Limits{Ext: 3, Fields: 2, Bytes: 10}
)

// followers tells what may stand behind a body, or behind a byte that is wrong.
func followers() []string {
	return []string{"", "x", "\r\n", "\r\n\r\n", "0\r\n\r\n", "3\r\nabc\r\n", "\x00", "\xff", ";", "00000000000000000", "a: b\r\n\r\n"}
}

// bodies tells whole bodies, with what they say.
func bodies() []struct {
	s, data string
	fields  []api.Field
} {
	return []struct {
		s, data string
		fields  []api.Field
	}{
		// without chunks
		{"0\r\n\r\n", "", nil},
		{"00\r\n\r\n", "", nil},
		{"0000000000000000\r\n\r\n", "", nil},
		{"0;\r\n\r\n", "", nil},
		{"0;x\r\na:\r\n\r\n", "", []api.Field{f("a", "")}},
		// the chapter's example
		{"3\r\nabc\r\n0\r\n\r\n", "abc", nil},
		{"3\r\nabc\r\n5\r\ndefgh\r\n0\r\n\r\n", "abcdefgh", nil},
		{"1\r\na\r\n1\r\nb\r\n1\r\nc\r\n000\r\n\r\n", "abc", nil},
		// digits, great and small, with noughts ahead
		{"a\r\n0123456789\r\n0\r\n\r\n", "0123456789", nil},
		{"A\r\n0123456789\r\n0\r\n\r\n", "0123456789", nil},
		{"00B\r\n0123456789a\r\n0\r\n\r\n", "0123456789a", nil},
		{"f\r\n0123456789abcde\r\nF\r\n0123456789abcde\r\n0\r\n\r\n", "0123456789abcde0123456789abcde", nil},
		{"10\r\n0123456789abcdef\r\n0\r\n\r\n", "0123456789abcdef", nil},
		{"0000000000000001\r\nx\r\n0\r\n\r\n", "x", nil},
		// data of any bytes, as many as are said, whatever they look like
		{"2\r\n\r\n\r\n0\r\n\r\n", "\r\n", nil},
		{"5\r\n0\r\n\r\n\r\n0\r\n\r\n", "0\r\n\r\n", nil},
		{"4\r\n\x00\x7f\xff\n\r\n0\r\n\r\n", "\x00\x7f\xff\n", nil},
		{"1\r\n\r\r\n1\r\n\n\r\n0\r\n\r\n", "\r\n", nil},
		// extensions: any text bytes behind a semicolon, not looked at
		{"1;\r\nx\r\n0;\r\n\r\n", "x", nil},
		{"1;a=b;c=\"d e\"\r\nx\r\n0;\t \xff~!\r\n\r\n", "x", nil},
		{"1;;;3\r\nx\r\n0;1\r\n\r\n", "x", nil},
		{"1; \r\nx\r\n0\r\n\r\n", "x", nil},
		// trailers
		{"0\r\na: 1\r\n\r\n", "", []api.Field{f("a", "1")}},
		{"0\r\na:1\r\nA:\t 2 3 \t\r\nb:\r\nb: \r\n\r\n", "", []api.Field{f("a", "1"), f("A", "2 3"), f("b", ""), f("b", "")}},
		{"2;q\r\nab\r\n0;r\r\nX-Sum: \xe4:,;\r\n!#$%&'*+-.^_`|~09azAZ: x\r\n\r\n", "ab", []api.Field{f("X-Sum", "\xe4:,;"), f("!#$%&'*+-.^_`|~09azAZ", "x")}},
		{"0\r\n0: 3\r\n\r\n", "", []api.Field{f("0", "3")}},
	}
}

// P8.1: whole bodies, whatever follows them.
func TestScan(t *testing.T) {
	for _, x := range bodies() {
		for _, behind := range followers() {
			s := x.s + behind
			b, at, e := Scan([]byte(s), wide)
			if string(b.Data) != x.data || !slices.Equal(b.Fields, x.fields) || b.Size != len(x.s) || at != len(x.s) || e != api.OK {
				t.Errorf("Scan(%q) = %s, %d, %v, wanted %q, %q, %d", s, show(b), at, e, x.data, x.fields, len(x.s))
			}
			check(t, s, wide)
			check(t, s, narrow)
			check(t, s, noLimits)
		}
	}
}

// P8.1 and P8.2: a body that is cut short anywhere.
func TestScanOfPartsOfABody(t *testing.T) {
	for _, x := range bodies() {
		for n := range len(x.s) {
			s := x.s[:n]
			if b, at, e := Scan([]byte(s), wide); !wantSame(b, Body{}) || at != n || e != api.ErrMore {
				t.Errorf("Scan(%q) = %s, %d, %v, wanted nothing, %d, ErrMore", s, show(b), at, e, n)
			}
			check(t, s, wide)
		}
	}
	for _, s := range [][]byte{nil, {}} {
		if b, at, e := Scan(s, noLimits); !wantSame(b, Body{}) || at != 0 || e != api.ErrMore {
			t.Errorf("Scan of nothing = %s, %d, %v", show(b), at, e)
		}
		if got := Payload(s, noLimits); len(got) != 0 {
			t.Errorf("Payload of nothing = %q", got)
		}
	}
}

// P8.1: the place is that of the first byte that is wrong, whatever follows it.
func TestScanRefuses(t *testing.T) {
	for _, x := range []struct {
		s  string
		at int
	}{
		// sizes
		{"\r", 0}, {"\n", 0}, {"g", 0}, {"G", 0}, {" ", 0}, {"\t", 0}, {";", 0}, {"-", 0}, {"+", 0}, {"x", 0}, {"/", 0}, {":", 0}, {"@", 0}, {"`", 0}, {"\x00", 0}, {"\xff", 0},
		{"3x", 1}, {"3 ", 1}, {"3\t", 1}, {"3g", 1}, {"0x", 1}, {"3,", 1}, {"3\n", 1}, {"3:", 1}, {"3\x00", 1}, {"3\xb2", 1},
		{"12345678\r;", 9}, {"0000000000000001 ", 16}, {"0000000000000001g", 16}, {"3fffffffffffffff\n", 16},
		// extensions
		{"3;\x00", 2}, {"3;\n", 2}, {"3;\x7f", 2}, {"3;a\x1f", 3}, {"3;a\v", 3}, {"3; \n", 3}, {"0;\x00", 2}, {"3;a\r;", 4}, {"3;\r\r", 3}, {"3;\ra", 3},
		// ends of sizes
		{"3\rx", 2}, {"3\r\r", 2}, {"0\rx", 2}, {"0\r\r", 2}, {"0\r;", 2}, {"0\r\x00", 2},
		// ends of data
		{"3\r\nabcd", 6}, {"3\r\nabc\n", 6}, {"3\r\nabc0", 6}, {"3\r\nabc\x00", 6}, {"3\r\nabc\rx", 7}, {"3\r\nabc\r\r", 7}, {"1\r\n\r\n", 4}, {"1\r\n\n\n", 4},
		// behind a chunk
		{"3\r\nabc\r\n\r", 8}, {"3\r\nabc\r\n\n", 8}, {"3\r\nabc\r\n;", 8}, {"3\r\nabc\r\nx", 8}, {"3\r\nabc\r\n ", 8}, {"3\r\nabc\r\n0x", 9}, {"3\r\nabc\r\n1\r\nxx", 12},
		// sections
		{"0\r\n\n", 3}, {"0\r\n ", 3}, {"0\r\n:", 3}, {"0\r\n\x00", 3}, {"0\r\n\rx", 4}, {"0\r\n\r\r", 4}, {"0\r\nx\r", 4}, {"0\r\nx ", 4}, {"0\r\nx\n", 4}, {"0\r\nx(", 4},
		{"0\r\nx:\n", 5}, {"0\r\nx: \x00", 6}, {"0\r\nx: 1\n", 7}, {"0\r\nx: 1\rx", 8}, {"0\r\nx: 1\r\n ", 9}, {"0\r\nx: 1\r\n\n", 9}, {"0\r\nx: 1\r\n\rx", 10}, {"0\r\nx: 1\r\ny\r", 10},
		{"2\r\nab\r\n0;e\r\nx: 1\r\n\t", 18},
	} {
		for _, behind := range followers() {
			s := x.s + behind
			if b, at, e := Scan([]byte(s), wide); !wantSame(b, Body{}) || at != x.at || e != api.ErrForm {
				t.Errorf("Scan(%q) = %s, %d, %v, wanted nothing, %d, ErrForm", s, show(b), at, e, x.at)
			}
			check(t, s, wide)
		}
	}
}

// P8.1: sizes of 16 digits, a 17th one, and numbers that are too great, at the first chunk and behind one.
func TestSizesThatAreTooGreat(t *testing.T) {
	noughts := strings.Repeat("0", 15)
	for _, x := range []struct {
		s  string
		at int
		e  api.Errno
	}{
		{noughts, 15, api.ErrMore},
		{noughts + "0", 16, api.ErrMore},
		{noughts + "1", 16, api.ErrMore},
		{noughts + "f\r\n", 18, api.ErrMore},
		{"3fffffffffffffff", 16, api.ErrMore},
		{"3FFFFFFFFFFFFFFF\r\n", 18, api.ErrMore},
		{"3fffffffffffffff\r\nabc", 21, api.ErrMore},
		{"3fffffffffffffff;x\r\n0\r\n\r\n", 25, api.ErrMore},
		{"3ffffffffffffffe\r\n", 18, api.ErrMore},
		{"400000000000000", 15, api.ErrMore},
		{"fffffffffffffff", 15, api.ErrMore},
		{"fffffffffffffff\r\nx", 18, api.ErrMore},
		{"0fffffffffffffff\r\nx", 19, api.ErrMore},
		// a 17th digit, whatever the number
		{noughts + "00", 16, api.ErrBig},
		{noughts + "01", 16, api.ErrBig},
		{noughts + "1f", 16, api.ErrBig},
		{noughts + "0a", 16, api.ErrBig},
		{noughts + "0F", 16, api.ErrBig},
		{noughts + noughts, 16, api.ErrBig},
		{"3fffffffffffffff0", 16, api.ErrBig},
		{"10000000000000000", 16, api.ErrBig},
		// too great at the 16th one
		{"4000000000000000", 15, api.ErrBig},
		{"400000000000000f", 15, api.ErrBig},
		{"7fffffffffffffff", 15, api.ErrBig},
		{"8000000000000000", 15, api.ErrBig},
		{"ffffffffffffffff", 15, api.ErrBig},
		{"FFFFFFFFFFFFFFFFF", 15, api.ErrBig},
		{"4000000000000000\x00", 15, api.ErrBig},
		// a byte that is no digit at these places
		{"400000000000000g", 15, api.ErrForm},
		{noughts + "0g", 16, api.ErrForm},
		{noughts + "0 ", 16, api.ErrForm},
	} {
		for _, ahead := range []string{"", "2\r\nab\r\n", "1;x\r\na\r\n1\r\nb\r\n"} {
			s := ahead + x.s
			if b, at, e := Scan([]byte(s), wide); !wantSame(b, Body{}) || at != len(ahead)+x.at || e != x.e {
				t.Errorf("Scan(%q) = %s, %d, %v, wanted nothing, %d, %v", s, show(b), at, e, len(ahead)+x.at, x.e)
			}
			check(t, s, wide)
			check(t, s, noLimits)
		}
	}
}

// P8.1: around every power of two, with noughts ahead.
func TestSizesAtTheEdges(t *testing.T) {
	for shift := range 72 {
		for by := int64(-2); by <= 2; by++ {
			n := new(big.Int).Add(new(big.Int).Lsh(big.NewInt(1), uint(shift)), big.NewInt(by))
			if n.Sign() <= 0 {
				continue
			}
			small := n.Text(16)
			for _, digits := range []string{small, strings.ToUpper(small), "0" + small, strings.Repeat("0", max(0, 16-len(small))) + small} {
				check(t, digits, noLimits)
				check(t, digits+"\r\nab", noLimits)
				check(t, digits+"x", noLimits)
			}
		}
	}
}

// P8.1
func TestRight(t *testing.T) {
	good := []int{0, 1, 2, 100, 65535, 65536}
	bad := []int{-1, -2, -65536, 65537, 65538, 1 << 17, 1 << 32, 1<<32 + 1, -1 << 32, math.MaxInt, math.MinInt}
	for _, a := range good {
		for _, b := range good {
			for _, c := range good {
				if l := (api.Limits{Ext: a, Fields: b, Bytes: c}); !Right(l) {
					t.Errorf("Right(%v) = false", l)
				}
			}
		}
	}
	for _, a := range bad {
		for _, b := range append(good, bad...) {
			for _, l := range []api.Limits{{Ext: a, Fields: b, Bytes: b}, {Ext: b, Fields: a, Bytes: b}, {Ext: b, Fields: b, Bytes: a}, {Ext: a}, {Fields: a}, {Bytes: a}} {
				if Right(l) {
					t.Errorf("Right(%v) = true", l)
				}
			}
		}
	}
}

// P8.1 and P8.2: limits that aren't right stand ahead of all else.
func TestLimitsThatAreNotRight(t *testing.T) {
	for _, n := range []int{-1, 65537, math.MaxInt, math.MinInt} {
		for _, l := range []api.Limits{{Ext: n}, {Fields: n}, {Bytes: n}, {Ext: n, Fields: n, Bytes: n}, {Ext: n, Fields: 5, Bytes: 50}} {
			for _, s := range []string{"", "0\r\n\r\n", "1\r\na\r\n0\r\na: b\r\n\r\n", "1\r\na", "x", "4000000000000000", "0;xx"} {
				if b, at, e := Scan([]byte(s), l); !wantSame(b, Body{}) || at != 0 || e != api.ErrArg {
					t.Errorf("Scan(%q, %v) = %s, %d, %v, wanted ErrArg", s, l, show(b), at, e)
				}
				if got := Payload([]byte(s), l); len(got) != 0 {
					t.Errorf("Payload(%q, %v) = %q", s, l, got)
				}
			}
		}
	}
}

// P8.1: an extension up to the limit, and one byte more, the semicolon counted.
func TestExtensionsAtTheirLimit(t *testing.T) {
	for _, x := range []struct {
		s   string
		ext int
		at  int
		e   api.Errno
	}{
		{"0\r\n\r\n", 0, 5, api.OK},
		{"0;", 0, 1, api.ErrLimit},
		{"0;\r\n\r\n", 0, 1, api.ErrLimit},
		{"1\r\nx\r\n0;\r\n\r\n", 0, 7, api.ErrLimit},
		{"0;", 1, 2, api.ErrMore},
		{"0;\r\n\r\n", 1, 6, api.OK},
		{"0;a", 1, 2, api.ErrLimit},
		{"0;;", 1, 2, api.ErrLimit},
		{"0; ", 1, 2, api.ErrLimit},
		{"0;\x00", 1, 2, api.ErrForm},
		{"0;\n", 1, 2, api.ErrForm},
		{"0;\rx", 1, 3, api.ErrForm},
		{"3;abc", 4, 5, api.ErrMore},
		{"3;abc\r\n", 4, 7, api.ErrMore},
		{"3;abcd", 4, 5, api.ErrLimit},
		{"3;abc\x00", 4, 5, api.ErrForm},
		{"3;abcd\x00", 4, 5, api.ErrLimit},
		{"3;ab\x00d", 4, 4, api.ErrForm},
		{"3;abc\r\r", 4, 6, api.ErrForm},
		// each extension has the limit to itself, and the digits don't count
		{"1;ab\r\nx\r\n1;cd\r\ny\r\n0;ef\r\n\r\n", 3, 26, api.OK},
		{"1;ab\r\nx\r\n1;cd\r\ny\r\n0;efg\r\n\r\n", 3, 22, api.ErrLimit},
		{"0000000000000000;ab\r\n\r\n", 3, 23, api.OK},
		{"0000000000000000;abc\r\n\r\n", 3, 19, api.ErrLimit},
		// a semicolon that can't stand there
		{";", 0, 0, api.ErrForm},
		{"0\r;", 0, 2, api.ErrForm},
		{"1\r\nx;", 0, 4, api.ErrForm},
	} {
		l := api.Limits{Ext: x.ext}
		if _, at, e := Scan([]byte(x.s), l); at != x.at || e != x.e {
			t.Errorf("Scan(%q, %v): %d, %v, wanted %d, %v", x.s, l, at, e, x.at, x.e)
		}
		check(t, x.s, l)
	}
}

// P8.1: one more field, and one more byte of the fields' lines, than the limits say.
func TestSectionsAtTheirLimits(t *testing.T) {
	for _, x := range []struct {
		s             string
		fields, bytes int
		at            int
		e             api.Errno
	}{
		// the section's own end counts for nothing
		{"\r\n", 0, 0, 2, api.OK},
		{"\r", 0, 0, 1, api.ErrMore},
		{"\rx", 0, 0, 1, api.ErrForm},
		{"a:\r\n\r\n", 1, 4, 6, api.OK},
		{"a:\r\n\r", 1, 4, 5, api.ErrMore},
		{"a:\r\n\rx", 1, 4, 5, api.ErrForm},
		{"a:\r\n\n", 1, 4, 4, api.ErrForm},
		{"a:\r\n", 1, 4, 4, api.ErrMore},
		// fields
		{"a", 0, 100, 0, api.ErrLimit},
		{"a", 0, 0, 0, api.ErrLimit},
		{"a", 1, 0, 0, api.ErrLimit},
		{" ", 0, 0, 0, api.ErrForm},
		{"\n", 0, 0, 0, api.ErrForm},
		{":", 0, 100, 0, api.ErrForm},
		{"a:\r\nb", 1, 100, 4, api.ErrLimit},
		{"a:\r\nb:\r\n\r\n", 1, 100, 4, api.ErrLimit},
		{"a:\r\nb:\r\n\r\n", 2, 100, 10, api.OK},
		{"a:\r\n:", 1, 100, 4, api.ErrForm},
		{"a:\r\n b", 1, 100, 4, api.ErrForm},
		{"a:\r\n\x00", 1, 100, 4, api.ErrForm},
		{"a:\r\nb:\r\nc", 2, 20, 8, api.ErrLimit},
		{"a\x00", 0, 100, 0, api.ErrLimit},
		{"a\x00", 1, 100, 1, api.ErrForm},
		// bytes, at each byte of a line
		{"ab: c\r\n\r\n", 1, 7, 9, api.OK},
		{"ab: c\r\n\r\n", 1, 6, 6, api.ErrLimit},
		{"ab: c\r\n\r\n", 1, 5, 5, api.ErrLimit},
		{"ab: c\r\n\r\n", 1, 4, 4, api.ErrLimit},
		{"ab: c\r\n\r\n", 1, 3, 3, api.ErrLimit},
		{"ab: c\r\n\r\n", 1, 2, 2, api.ErrLimit},
		{"ab: c\r\n\r\n", 1, 1, 1, api.ErrLimit},
		{"ab: c\r\n\r\n", 1, 0, 0, api.ErrLimit},
		{"ab: c\r", 1, 6, 6, api.ErrMore},
		{"ab: c", 1, 5, 5, api.ErrMore},
		{"ab: c", 1, 6, 5, api.ErrMore},
		// a byte that can't stand where the limit is passed
		{"ab: c\rx", 1, 6, 6, api.ErrForm},
		{"ab: c\r\r", 1, 6, 6, api.ErrForm},
		{"ab: c\n", 1, 5, 5, api.ErrForm},
		{"ab: \x00", 1, 4, 4, api.ErrForm},
		{"ab:\x7f", 1, 3, 3, api.ErrForm},
		{"ab\r", 1, 2, 2, api.ErrForm},
		{"a ", 1, 1, 1, api.ErrForm},
		// one ahead of it, and one behind it
		{"ab: \x00", 1, 5, 4, api.ErrForm},
		{"ab: c\x00", 1, 4, 4, api.ErrLimit},
		{"ab: c\r\n\x00", 1, 6, 6, api.ErrLimit},
		// lines together
		{"a:\r\nb:\r\n\r\n", 2, 8, 10, api.OK},
		{"a:\r\nb:\r\n\r\n", 2, 7, 7, api.ErrLimit},
		{"a:\r\nb:\r\n\r\n", 2, 4, 4, api.ErrLimit},
		{"a:\r\nb:\r\n\r\n", 2, 3, 3, api.ErrLimit},
		{"a:\r\nb:\r\n\r\n", 1, 3, 3, api.ErrLimit},
		{"a:\r\nb:\r\n\r\n", 1, 4, 4, api.ErrLimit},
		{"a:\r\nb:\r\n\r\n", 1, 5, 4, api.ErrLimit},
		{"a:\r\n:", 2, 4, 4, api.ErrForm},
		// what is trimmed off counts
		{"a: \t \r\n\r\n", 1, 7, 9, api.OK},
		{"a: \t \r\n\r\n", 1, 6, 6, api.ErrLimit},
		{"a: \t \r\n\r\n", 1, 3, 3, api.ErrLimit},
		// behind the body nothing is asked
		{"a:\r\n\r\nb:\r\n", 1, 4, 6, api.OK},
		{"\r\nb:\r\n", 0, 0, 2, api.OK},
	} {
		for _, ahead := range []string{"0\r\n", "00;x\r\n", "2\r\nab\r\n0\r\n"} {
			l := api.Limits{Ext: 2, Fields: x.fields, Bytes: x.bytes}
			s := ahead + x.s
			if _, at, e := Scan([]byte(s), l); at != len(ahead)+x.at || e != x.e {
				t.Errorf("Scan(%q, %v): %d, %v, wanted %d, %v", s, l, at, e, len(ahead)+x.at, x.e)
			}
			check(t, s, l)
		}
	}
}

// P8.1: limits of MaxLimit, met and passed by one byte.
func TestGreatestLimits(t *testing.T) {
	ext := ";" + strings.Repeat("x", 65535)
	value := "a:" + strings.Repeat("v", 65532) + "\r\n" // 65536 bytes
	lines := strings.Repeat("a:\r\n", 16384)            // 65536 bytes
	for _, x := range []struct {
		s      string
		fields int
		at     int
		e      api.Errno
	}{
		{"0" + ext + "\r\n\r\n", 0, 65541, api.OK},
		{"0" + ext, 0, 65537, api.ErrMore},
		{"0" + ext + "x\r\n\r\n", 0, 65537, api.ErrLimit},
		{"0" + ext + "\x00", 0, 65537, api.ErrForm},
		{"0\r\n" + value + "\r\n", 1, 65541, api.OK},
		{"0\r\n" + value, 1, 65539, api.ErrMore},
		{"0\r\n" + value + "\r", 1, 65540, api.ErrMore},
		{"0\r\n" + value + "\rx", 1, 65540, api.ErrForm},
		{"0\r\n" + value + "b", 1, 65539, api.ErrLimit},
		{"0\r\n" + value + "\n", 1, 65539, api.ErrForm},
		{"0\r\na" + value + "\r\n", 1, 65539, api.ErrLimit},
		{"0\r\naa" + value + "\r\n", 1, 65539, api.ErrLimit},
		{"0\r\naaa" + value + "\r\n", 1, 65539, api.ErrLimit},
		{"0\r\n" + lines + "\r\n", 16384, 65541, api.OK},
		{"0\r\n" + lines + "a:\r\n\r\n", 16385, 65539, api.ErrLimit},
		{"0" + ext + "\r\n" + lines + "\r\n" + lines, 16384, 131077, api.OK},
	} {
		b, at, e := Scan([]byte(x.s), wide)
		if at != x.at || e != x.e || e == api.OK && len(b.Fields) != x.fields || e != api.OK && !wantSame(b, Body{}) {
			t.Errorf("Scan of %d bytes from %q on: %d fields, %d, %v, wanted %d, %d, %v", len(x.s), x.s[:20], len(b.Fields), at, e, x.fields, x.at, x.e)
		}
	}
	if _, at, e := Scan([]byte("0\r\n"+lines+"\r\n"), api.Limits{Fields: 16383, Bytes: 65536}); at != 65535 || e != api.ErrLimit {
		t.Error(at, e)
	}
	if _, at, e := Scan([]byte("0\r\n"+lines+"\r\n"), api.Limits{Fields: 16384, Bytes: 65535}); at != 65538 || e != api.ErrLimit {
		t.Error(at, e)
	}
}

// P8.1 and P8.2: one body under all small limits, whole and cut short.
func TestEveryLimit(t *testing.T) {
	const s = "1;ab\r\nx\r\n0;abc\r\na: \r\nbc:d\r\n\r\ny"
	for ext := range 6 {
		for fields := range 4 {
			for n := range 15 {
				l := api.Limits{Ext: ext, Fields: fields, Bytes: n}
				check(t, s, l)
				check(t, s[:len(s)-3], l)
			}
		}
	}
}

// P8.1 and P8.2: every byte, in place of each byte of a body and between each two.
func TestEachByteAtEachPlace(t *testing.T) {
	const s = "2;e\r\nab\r\n0\r\nc: d\r\nE:\r\n\r\nz"
	for i := range 256 {
		c := string([]byte{byte(i)})
		for at := range len(s) + 1 {
			check(t, s[:at]+c, narrow)
			check(t, s[:at]+c+s[at:], narrow)
			if at < len(s) {
				check(t, s[:at]+c+s[at+1:], narrow)
			}
		}
	}
}

// everyText tells all texts of at most that many of the bytes.
func everyText(bytes string, most int) []string {
	all := []string{""}
	for begin := 0; most > 0; most-- {
		end := len(all)
		for _, s := range all[begin:end] {
			for i := range len(bytes) {
				all = append(all, s+bytes[i:i+1])
			}
		}
		begin = end
	}
	return all
}

// P8.1 and P8.2: all short texts, at the beginning and behind some beginnings.
func TestEveryShortText(t *testing.T) {
	some := api.Limits{Ext: 2, Fields: 1, Bytes: 5}
	for _, s := range everyText("01;a\r\n", 5) {
		check(t, s, some)
	}
	for _, s := range everyText("0;a:\r\n\x00", 3) {
		for _, ahead := range []string{"1\r\n", "1;\r\nx\r", "1\r\nx\r\n0", "0\r\n", "0\r\na:", "0\r\na:\r", "0\r\na:b\r\n", "0\r\n\r", "3fffffffffffff", "000000000000000"} {
			check(t, ahead+s, some)
		}
	}
}

// anyBody makes a whole body.
func anyBody(r *rand.Rand) string {
	some := func(bytes string, n int) string {
		b := make([]byte, n)
		for i := range b {
			b[i] = bytes[r.Intn(len(bytes))]
		}
		return string(b)
	}
	line := func(size int) string {
		digits := strings.Repeat("0", r.Intn(3)) + strconv.FormatInt(int64(size), 16)
		if r.Intn(3) == 0 {
			digits += ";" + some("a;= \t\"\xff", r.Intn(5))
		}
		return digits + "\r\n"
	}
	var s strings.Builder
	for range r.Intn(4) {
		size := 1 + r.Intn(20)
		s.WriteString(line(size) + some("ab0;:\r\n\x00\xff", size) + "\r\n")
	}
	s.WriteString(line(0))
	for range r.Intn(4) {
		s.WriteString(some("aZ0-!", 1+r.Intn(3)) + ":" + some("a :;\t\x80", r.Intn(6)) + "\r\n")
	}
	return s.String() + "\r\n"
}

// P8.1 and P8.2: any body, under any limits, with a byte changed, left out, or put in.
func TestAnyBody(t *testing.T) {
	r := rand.New(rand.NewSource(8))
	for range 1500 {
		s := anyBody(r)
		l := api.Limits{Ext: r.Intn(7), Fields: r.Intn(5), Bytes: r.Intn(40)}
		if b, at, e := Scan([]byte(s), wide); at != len(s) || b.Size != len(s) || e != api.OK {
			t.Errorf("Scan(%q) = %s, %d, %v", s, show(b), at, e)
		}
		check(t, s, l)
		at, c := r.Intn(len(s)), string([]byte{"0aF;: \r\n\x00\xff"[r.Intn(10)]})
		check(t, s[:at]+c+s[at+1:], l)
		check(t, s[:at]+c+s[at:], wide)
		check(t, s[:at]+s[at+1:], wide)
		check(t, s[:at], l)
	}
}

// P8.2
func TestPayload(t *testing.T) {
	for _, x := range []struct {
		s, want string
		l       api.Limits
	}{
		{"", "", wide},
		{"0\r\n\r\n", "", wide},
		{"3", "", wide},
		{"3\r", "", wide},
		{"3\r\n", "", wide},
		{"3\r\na", "a", wide},
		{"3\r\nab", "ab", wide},
		{"3\r\nabc", "abc", wide},
		{"3\r\nabc\r", "abc", wide},
		{"3\r\nabc\r\n", "abc", wide},
		{"3\r\nabcd", "abc", wide},
		{"3\r\nabc\rx", "abc", wide},
		{"3\r\nabc\r\nx", "abc", wide},
		{"3\r\nabc\r\n5\r\nde", "abcde", wide},
		{"3fffffffffffffff\r\nabc", "abc", wide},
		{"2\r\n\r\n", "\r\n", wide},
		{"3\r\nabc\r\n4000000000000000\r\ndef", "abc", wide},
		{"3\r\nabc\r\n00000000000000003\r\ndef", "abc", wide},
		{"x\r\nabc", "", wide},
		// whole bodies: what follows is no data of theirs
		{"3\r\nabc\r\n0\r\n\r\n", "abc", wide},
		{"3\r\nabc\r\n0\r\n\r\n3\r\ndef\r\n0\r\n\r\n", "abc", wide},
		{"3\r\nabc\r\n0\r\nx: y\r\n\r\n", "abc", wide},
		// sections that fail, or aren't whole, take nothing away
		{"3\r\nabc\r\n0\r\nx: y", "abc", wide},
		{"3\r\nabc\r\n0\r\n x: y", "abc", wide},
		{"3\r\nabc\r\n0\r\nx: y\r\n\r\n", "abc", noLimits},
		// up to the byte that is beyond the limits
		{"3\r\nabc\r\n3;x\r\ndef", "abcdef", api.Limits{Ext: 2}},
		{"3\r\nabc\r\n3;x\r\ndef", "abc", api.Limits{Ext: 1}},
		{"3;\r\nabc", "", noLimits},
	} {
		if got := string(Payload([]byte(x.s), x.l)); got != x.want {
			t.Errorf("Payload(%q, %v) = %q, wanted %q", x.s, x.l, got, x.want)
		}
		check(t, x.s, x.l)
	}
}

// P8.1 and P8.2: long data, and many chunks.
func TestLongBodies(t *testing.T) {
	data := strings.Repeat("0\r\n\r\n\x00abc", 1<<17)
	long := strconv.FormatInt(int64(len(data)), 16) + "\r\n" + data + "\r\n"
	many := strings.Repeat("1\r\nx\r\n", 1<<17)
	const tail = "0\r\na: b\r\n\r\n"
	s := long + many + long + tail
	want := data + strings.Repeat("x", 1<<17) + data
	b, at, e := Scan([]byte(s+"more"), wide)
	if string(b.Data) != want || !slices.Equal(b.Fields, []api.Field{f("a", "b")}) || b.Size != len(s) || at != len(s) || e != api.OK {
		t.Error(len(b.Data), b.Fields, b.Size, at, e)
	}
	if got := string(Payload([]byte(s), wide)); got != want {
		t.Error(len(got))
	}
	cut := len(s) - len("\r\n"+tail) - 1 // ahead of the last byte of data
	if b, at, e := Scan([]byte(s[:cut]), wide); !wantSame(b, Body{}) || at != cut || e != api.ErrMore {
		t.Error(b.Size, at, e)
	}
	if got := string(Payload([]byte(s[:cut]), wide)); got != want[:len(want)-1] {
		t.Error(len(got), len(want))
	}
}

// P8.2
func TestSame(t *testing.T) {
	all := []Body{
		{},
		{Size: 1},
		{Size: -1},
		{Data: []byte("a")},
		{Data: []byte("b")},
		{Data: []byte("ab")},
		{Data: []byte("A")},
		{Data: []byte{0}},
		{Data: []byte("a"), Size: 1},
		{Fields: []api.Field{{}}},
		{Fields: []api.Field{f("a", "")}},
		{Fields: []api.Field{f("A", "")}},
		{Fields: []api.Field{f("", "a")}},
		{Fields: []api.Field{f("a", "b")}},
		{Fields: []api.Field{f("a", "c")}},
		{Fields: []api.Field{f("a", "b"), f("c", "d")}},
		{Fields: []api.Field{f("c", "d"), f("a", "b")}},
		{Fields: []api.Field{f("a", "b"), f("a", "b")}},
		{Data: []byte("a"), Fields: []api.Field{f("a", "b")}, Size: 13},
		{Data: []byte("a"), Fields: []api.Field{f("a", "b")}, Size: 14},
		{Data: []byte("a"), Fields: []api.Field{f("a", "x")}, Size: 13},
		{Data: []byte("x"), Fields: []api.Field{f("a", "b")}, Size: 13},
	}
	for i, a := range all {
		for j, b := range all {
			other := Body{Data: append(make([]byte, 0, 9), b.Data...), Fields: append(make([]api.Field, 0, 9), b.Fields...), Size: b.Size}
			if got := Same(a, other); got != (i == j) {
				t.Errorf("Same(%s, %s) = %v, the bodies %d and %d", show(a), show(other), got, i, j)
			}
		}
	}
}

// P8.2 with R3: nil and empty lists are one.
func TestSameOfNilAndEmptyLists(t *testing.T) {
	nils := Body{Size: 5}
	empties := []Body{{Data: []byte{}, Size: 5}, {Fields: []api.Field{}, Size: 5}, {Data: []byte{}, Fields: []api.Field{}, Size: 5}, {Data: make([]byte, 0, 5), Fields: make([]api.Field, 0, 5), Size: 5}}
	scanned, _, _ := Scan([]byte("0\r\n\r\n"), noLimits)
	for _, b := range append(empties, nils) {
		for _, pair := range [][2]Body{{nils, b}, {b, nils}, {b, b}, {scanned, b}, {b, scanned}} {
			if !Same(pair[0], pair[1]) {
				t.Errorf("Same(%#v, %#v) = false", pair[0], pair[1])
			}
		}
	}
}

// P8.1 and P8.2 with R4: what is handed in stays as it is, its spare room too.
func TestWhatIsHandedInIsNotChanged(t *testing.T) {
	for _, s := range []string{"3\r\nabc\r\n2\r\nde\r\n0\r\na: b \r\nC:\r\n\r\nmore", "3\r\nab", "3\r\nabc\r\nx", "0;xxxxxx", ""} {
		room := []byte(s + "spare room")
		Scan(room[:len(s)], wide)
		Scan(room[:len(s)], narrow)
		Payload(room[:len(s)], wide)
		if string(room) != s+"spare room" {
			t.Errorf("%q is %q behind the calls", s+"spare room", room)
		}
	}
	a := Body{Data: []byte("abc")[:1], Fields: []api.Field{f("a", "b"), f("c", "d")}[:1], Size: 1}
	b := Body{Data: []byte("abd")[:1], Fields: []api.Field{f("a", "b"), f("e", "f")}[:1], Size: 1}
	if !Same(a, b) || string(a.Data[:3]) != "abc" || string(b.Data[:3]) != "abd" || a.Fields[:2][1] != f("c", "d") || b.Fields[:2][1] != f("e", "f") {
		t.Errorf("%s and %s", show(a), show(b))
	}
}

// P8.1 and P8.2 with R4: what is written into an argument or an answer, its spare room too, is seen nowhere else.
func TestAnswersAreNewMemory(t *testing.T) {
	const whole = "3\r\nabc\r\n2\r\nde\r\n0\r\na: 1\r\nb: 2\r\n\r\n"
	for _, s := range []string{whole, "5\r\nabcde\r\n0\r\na: 1\r\nb: 2\r\n\r\n"} {
		text := []byte(s)
		first, _, _ := Scan(text, wide)
		second, _, _ := Scan(text, wide)
		payload, other := Payload(text, wide), Payload(text, wide)
		overwrite(second.Data)
		overwrite(other)
		for i := range second.Fields[:cap(second.Fields)] {
			second.Fields[:cap(second.Fields)][i] = f("over", "written")
		}
		if string(text) != s {
			t.Errorf("%q is now %q", s, text)
		}
		third, _, _ := Scan(text, wide)
		overwrite(text)
		want := Body{Data: []byte("abcde"), Fields: []api.Field{f("a", "1"), f("b", "2")}, Size: len(s)}
		if !wantSame(first, want) || !wantSame(third, want) || string(payload) != "abcde" {
			t.Errorf("%s, %s and %q, wanted %s", show(first), show(third), payload, show(want))
		}
	}
}

func overwrite(b []byte) {
	b = b[:cap(b)]
	for i := range b {
		b[i] = '!'
	}
}

// P8.1 and P8.2 with R5: what was asked before makes no difference.
func TestTheSameIsAnsweredAgain(t *testing.T) {
	for range 3 {
		for _, s := range []string{"3\r\nabc\r\n0\r\na: b\r\n\r\n", "3\r\nabx", "3\r\nabc\r\nx", "0;xxxxx", "4000000000000000", "0\r\na:\r\nb:\r\nc:", "", "0\r\n\r\n"} {
			check(t, s, narrow)
			check(t, s, api.Limits{Ext: -1})
			check(t, s, wide)
		}
	}
}

// P8.1 and P8.2 with R1: several goroutines at once, those that give up among them.
func TestSeveralGoroutines(t *testing.T) {
	texts := []string{"3\r\nabc\r\n0\r\na: b\r\n\r\n", "3\r\nab", "3\r\nabc\r\nx", "1\r\nx\r\n0;xxxxx", "0\r\n\r\n"}
	var wait sync.WaitGroup
	for i := range 16 {
		wait.Go(func() {
			for n := range 200 {
				s := []byte(texts[(i+n)%len(texts)])
				want, wantAt, wantE := wantScan(string(s), narrow)
				b, at, e := Scan(s, narrow)
				if !wantSame(b, want) || at != wantAt || e != wantE || !Same(b, want) {
					t.Errorf("Scan(%q) = %s, %d, %v", s, show(b), at, e)
				}
				if got := Payload(s, narrow); !bytes.Equal(got, []byte(wantPayload(string(s), wantAt, wantE))) {
					t.Errorf("Payload(%q) = %q", s, got)
				}
			}
		})
	}
	wait.Wait()
}
