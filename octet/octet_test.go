package octet

import (
	"strings"
	"testing"
)

// The kinds of bytes are listed here once more, byte by byte, so that no rule of the program's own is repeated.
const (
	smallLetters = "abcdefghijklmnopqrstuvwxyz"
	greatLetters = "ABCDEFGHIJKLMNOPQRSTUVWXYZ"
	allTokens    = smallLetters + greatLetters + "0123456789" + "!#$%&'*+-.^_`|~"
	otherVisible = "\"(),/:;<=>?@[\\]{}"
)

func wantToken(c byte) bool { return strings.IndexByte(allTokens, c) >= 0 }

func wantBlank(c byte) bool { return c == 0x20 || c == 0x09 }

func wantText(c byte) bool {
	return wantToken(c) || wantBlank(c) || strings.IndexByte(otherVisible, c) >= 0 || c >= 0x80
}

func wantSmall(c byte) byte {
	if i := strings.IndexByte(greatLetters, c); i >= 0 {
		return smallLetters[i]
	}
	return c
}

// P2.1
func TestKindsOfEveryByte(t *testing.T) {
	tokens, texts, values := 0, 0, 0
	for i := range 256 {
		c := byte(i)
		s := string([]byte{c})
		if got := Token(s); got != wantToken(c) {
			t.Errorf("Token(%q) = %v", s, got)
		}
		if got := Text(s); got != wantText(c) {
			t.Errorf("Text(%q) = %v", s, got)
		}
		if got := Value(s); got != (wantText(c) && !wantBlank(c)) {
			t.Errorf("Value(%q) = %v", s, got)
		}
		tokens += count(Token(s))
		texts += count(Text(s))
		values += count(Value(s))
	}
	if tokens != 77 || texts != 96+128 || values != 94+128 {
		t.Errorf("%d token bytes, %d text bytes, %d values of one byte", tokens, texts, values)
	}
}

func count(is bool) int {
	if is {
		return 1
	}
	return 0
}

// P2.1: a byte counts at each place of a text, not at its beginning alone.
func TestEachByteAtEachPlace(t *testing.T) {
	for i := range 256 {
		c := byte(i)
		s := string([]byte{c})
		for _, at := range []string{s + "ab", "a" + s + "b", "ab" + s} {
			if got := Token(at); got != wantToken(c) {
				t.Errorf("Token(%q) = %v", at, got)
			}
			if got := Text(at); got != wantText(c) {
				t.Errorf("Text(%q) = %v", at, got)
			}
			edge := at[0] == c || at[2] == c
			if got := Value(at); got != (wantText(c) && !(edge && wantBlank(c))) {
				t.Errorf("Value(%q) = %v", at, got)
			}
		}
	}
}

// P2.1
func TestTokenTextValue(t *testing.T) {
	for _, c := range []struct {
		s                  string
		token, text, value bool
	}{
		{"", false, true, true},
		{"Transfer-Encoding", true, true, true},
		{"x", true, true, true},
		{allTokens, true, true, true},
		{allTokens + otherVisible, false, true, true},
		{"a b", false, true, true},
		{"a\tb", false, true, true},
		{" ", false, true, false},
		{"\t", false, true, false},
		{" \t ", false, true, false},
		{" a", false, true, false},
		{"\ta", false, true, false},
		{"a ", false, true, false},
		{"a\t", false, true, false},
		{"\x80\xff", false, true, true},
		{"\u00e9", false, true, true},
		{" \x80", false, true, false},
		{"\xa0", false, true, true},
		{"a\nb", false, false, false},
		{"a\r\n", false, false, false},
		{" a\x00 ", false, false, false},
		{"\x7f", false, false, false},
		{"\x1f", false, false, false},
		{"a\vb", false, false, false},
	} {
		if Token(c.s) != c.token || Text(c.s) != c.text || Value(c.s) != c.value {
			t.Errorf("%q: token %v, text %v, value %v", c.s, Token(c.s), Text(c.s), Value(c.s))
		}
	}
}

// P2.2
func TestTrim(t *testing.T) {
	for _, c := range []struct{ s, want string }{
		{"", ""},
		{" ", ""},
		{"\t", ""},
		{" \t\t ", ""},
		{"a", "a"},
		{" a ", "a"},
		{"\ta", "a"},
		{"a\t", "a"},
		{" \t a b\t ", "a b"},
		{"a \t b", "a \t b"},
		{" \ta\t b", "a\t b"},
		{"\r\na\r\n", "\r\na\r\n"},
		{" \n ", "\n"},
		{"\va\f", "\va\f"},
		{"\x00 ", "\x00"},
		{" \xa0\x85 ", "\xa0\x85"},
		{"\u00a0a\u2003", "\u00a0a\u2003"},
		{"\xff \xff", "\xff \xff"},
	} {
		if got := Trim(c.s); got != c.want {
			t.Errorf("Trim(%q) = %q, want %q", c.s, got, c.want)
		}
	}
}

// P2.2
func TestTrimOfEveryByte(t *testing.T) {
	for i := range 256 {
		c := byte(i)
		s := string([]byte{c, 'x', c, 'x', c})
		want := s
		if wantBlank(c) {
			want = s[1:4]
		}
		if got := Trim(s); got != want {
			t.Errorf("Trim(%q) = %q, want %q", s, got, want)
		}
	}
}

// P2.2
func TestSmallOfEveryByte(t *testing.T) {
	for i := range 256 {
		c := byte(i)
		s := string([]byte{'A', c, 'z'})
		want := string([]byte{'a', wantSmall(c), 'z'})
		if got := Small(s); got != want {
			t.Errorf("Small(%q) = %q, want %q", s, got, want)
		}
	}
}

// P2.2
func TestSmall(t *testing.T) {
	for _, c := range []struct{ s, want string }{
		{"", ""},
		{greatLetters, smallLetters},
		{smallLetters, smallLetters},
		{"Transfer-Encoding: GZIP, 09", "transfer-encoding: gzip, 09"},
		{"@[`{", "@[`{"},
		{"\u00c4\u0130\u212a", "\u00c4\u0130\u212a"},
		{"\xc4\xff\x80", "\xc4\xff\x80"},
	} {
		if got := Small(c.s); got != c.want {
			t.Errorf("Small(%q) = %q, want %q", c.s, got, c.want)
		}
	}
}

// P2.2
func TestAlikeOfEveryTwoBytes(t *testing.T) {
	for i := range 256 {
		for j := range 256 {
			a, b := string([]byte{byte(i)}), string([]byte{byte(j)})
			if got, want := Alike(a, b), wantSmall(byte(i)) == wantSmall(byte(j)); got != want {
				t.Errorf("Alike(%q, %q) = %v", a, b, got)
			}
		}
	}
}

// P2.2
func TestAlike(t *testing.T) {
	for _, c := range []struct {
		a, b string
		want bool
	}{
		{"", "", true},
		{"", "a", false},
		{"chunked", "CHUNKED", true},
		{"Chunked", "cHUNKED", true},
		{"chunked", "chunke", false},
		{"chunked", "chunked ", false},
		{"chunked", "chunkee", false},
		{"chunked", "xhunked", false},
		{"a-b", "A_B", false},
		{"[", "{", false},
		{"@", "`", false},
		{"\u00e4", "\u00c4", false},
		{"k", "\u212a", false},
		{"\xe4", "\xc4", false},
		{"\xff", "\xfe", false},
		{"\x80A", "\x80a", true},
	} {
		if got := Alike(c.a, c.b); got != c.want {
			t.Errorf("Alike(%q, %q) = %v", c.a, c.b, got)
		}
		if got := Alike(c.b, c.a); got != c.want {
			t.Errorf("Alike(%q, %q) = %v", c.b, c.a, got)
		}
	}
}
