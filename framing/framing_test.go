package framing

import (
	"math"
	"math/big"
	"math/rand"
	"slices"
	"strconv"
	"strings"
	"sync"
	"testing"

	"catchpit/api"
)

// What the layers below answer is said here once more, so that the program's own calls are not asked what they should answer.
const (
	smallLetters = "abcdefghijklmnopqrstuvwxyz"
	greatLetters = "ABCDEFGHIJKLMNOPQRSTUVWXYZ"
	tokenBytes   = smallLetters + greatLetters + "0123456789" + "!#$%&'*+-.^_`|~"
)

const (
	greatest = "4611686018427387903" // MaxSize
	tooGreat = "4611686018427387904"
)

// of makes fields of names and values.
func of(l ...string) []api.Field {
	var fields []api.Field
	for i := 0; i < len(l); i += 2 {
		fields = append(fields, api.Field{Name: l[i], Value: l[i+1]})
	}
	return fields
}

// coded makes fields that list codings.
func coded(values ...string) []api.Field {
	var fields []api.Field
	for _, value := range values {
		fields = append(fields, api.Field{Name: "Transfer-Encoding", Value: value})
	}
	return fields
}

// sized makes fields that say lengths.
func sized(values ...string) []api.Field {
	var fields []api.Field
	for _, value := range values {
		fields = append(fields, api.Field{Name: "Content-Length", Value: value})
	}
	return fields
}

func fixed(size uint64) api.Framing { return api.Framing{Kind: api.Fixed, Size: size} }

var (
	none       = api.Framing{Kind: api.Nothing}
	chunks     = api.Framing{Kind: api.Chunked}
	untilClose = api.Framing{Kind: api.UntilClose}
)

func wantSmall(s string) string {
	b := []byte(s)
	for i := range b {
		if at := strings.IndexByte(greatLetters, b[i]); at >= 0 {
			b[i] = smallLetters[at]
		}
	}
	return string(b)
}

func wantToken(s string) bool {
	for i := range len(s) {
		if strings.IndexByte(tokenBytes, s[i]) < 0 {
			return false
		}
	}
	return s != ""
}

// wantValues tells the values of the fields of a name, which is written in small letters.
func wantValues(l []api.Field, name string) []string {
	var values []string
	for _, f := range l {
		if wantSmall(f.Name) == name {
			values = append(values, f.Value)
		}
	}
	return values
}

func wantItems(value string) []string {
	var items []string
	for _, item := range strings.Split(value, "\x2c") {
		if item = strings.Trim(item, "\x20\x09"); item != "" {
			items = append(items, item)
		}
	}
	return items
}

// wantNames tells the names of all items of the values, in small letters.
func wantNames(values []string) []string {
	var names []string
	for _, item := range wantItems(strings.Join(values, "\x2c")) {
		names = append(names, wantSmall(strings.Trim(strings.Split(item, "\x3b")[0], "\x20\x09")))
	}
	return names
}

// wantLength tells the length of fields that are there.
func wantLength(values []string) (api.Framing, api.Errno) {
	most, _ := new(big.Int).SetString(greatest, 10)
	var said []*big.Int
	great := false
	for _, value := range values {
		if len(wantItems(value)) == 0 {
			return api.Framing{}, api.ErrForm
		}
		for _, item := range wantItems(value) {
			if strings.Trim(item, "0123456789") != "" {
				return api.Framing{}, api.ErrForm
			}
			n, _ := new(big.Int).SetString(item, 10)
			great = great || n.Cmp(most) > 0
			said = append(said, n)
		}
	}
	if great {
		return api.Framing{}, api.ErrBig
	}
	for _, n := range said {
		if n.Cmp(said[0]) != 0 {
			return api.Framing{}, api.ErrForm
		}
	}
	return fixed(said[0].Uint64()), api.OK
}

// refused tells what P11.1 and P11.2 both refuse of codings.
func refused(l []api.Field) bool {
	names := wantNames(wantValues(l, "transfer-encoding"))
	noToken := func(name string) bool { return !wantToken(name) }
	return len(names) == 0 || slices.ContainsFunc(names, noToken) || len(wantValues(l, "content-length")) > 0
}

// wantRequest goes by the words of P11.1.
func wantRequest(l []api.Field) (api.Framing, api.Errno) {
	codings, lengths := wantValues(l, "transfer-encoding"), wantValues(l, "content-length")
	switch {
	case len(codings) > 0 && (refused(l) || strings.Join(wantNames(codings), " ") != "chunked"):
		return api.Framing{}, api.ErrForm
	case len(codings) > 0:
		return chunks, api.OK
	case len(lengths) > 0:
		return wantLength(lengths)
	}
	return none, api.OK
}

func wantBodiless(method string, status int) bool {
	hundreds := int(math.Floor(float64(status) / 100))
	return method == "HEAD" || hundreds == 1 || status == 204 || status == 304 || method == "CONNECT" && hundreds == 2
}

// wantResponse goes by the words of P11.2.
func wantResponse(method string, status int, l []api.Field) (api.Framing, api.Errno) {
	codings, lengths := wantValues(l, "transfer-encoding"), wantValues(l, "content-length")
	switch {
	case status < 100, status >= 1000:
		return api.Framing{}, api.ErrArg
	case wantBodiless(method, status):
		return none, api.OK
	case len(codings) > 0 && refused(l):
		return api.Framing{}, api.ErrForm
	case len(codings) > 0:
		return wantCoded(wantNames(codings))
	case len(lengths) > 0:
		return wantLength(lengths)
	}
	return untilClose, api.OK
}

// wantCoded tells what P11.2 says of a response's codings.
func wantCoded(names []string) (api.Framing, api.Errno) {
	times := 0
	for _, name := range names {
		if name == "chunked" {
			times++
		}
	}
	switch last := names[len(names)-1]; {
	case times > 1, times == 1 && last != "chunked":
		return api.Framing{}, api.ErrForm
	case times == 0:
		return untilClose, api.OK
	case len(names) > 1:
		return api.Framing{}, api.ErrLimit
	}
	return chunks, api.OK
}

// wantSays tells whether a field of the name says the word.
func wantSays(l []api.Field, name, word string) bool {
	return slices.Contains(wantNames(wantValues(l, name)), word)
}

func checkRequest(t *testing.T, l []api.Field, want api.Framing, wantE api.Errno) {
	t.Helper()
	if got, e := Request(l); got != want || e != wantE {
		t.Errorf("Request(%q) = %v, %d, wanted %v, %d", l, got, e, want, wantE)
	}
}

func checkResponse(t *testing.T, method string, status int, l []api.Field, want api.Framing, wantE api.Errno) {
	t.Helper()
	if got, e := Response(method, status, l); got != want || e != wantE {
		t.Errorf("Response(%q, %d, %q) = %v, %d, wanted %v, %d", method, status, l, got, e, want, wantE)
	}
}

// checkFields holds all that is told of the fields against the model.
func checkFields(t *testing.T, l []api.Field) {
	t.Helper()
	want, e := wantRequest(l)
	checkRequest(t, l, want, e)
	for _, x := range []struct {
		method string
		status int
	}{{"GET", 200}, {"CONNECT", 404}, {"CONNECT", 200}, {"HEAD", 200}, {"GET", 304}, {"GET", 99}, {"", 999}} {
		want, e := wantResponse(x.method, x.status, l)
		checkResponse(t, x.method, x.status, l, want, e)
	}
	if got, want := Lasts(l), !wantSays(l, "connection", "close"); got != want {
		t.Errorf("Lasts(%q) = %v", l, got)
	}
	if got, want := Expects(l), wantSays(l, "expect", "100-continue"); got != want {
		t.Errorf("Expects(%q) = %v", l, got)
	}
}

// P11.1 and P11.2: what a request and another's response with the same fields are told.
func TestFramings(t *testing.T) {
	type answer struct {
		framing api.Framing
		e       api.Errno
	}
	all := func(f api.Framing) answer { return answer{f, api.OK} }
	no := func(e api.Errno) answer { return answer{e: e} }
	form := no(api.ErrForm)
	for _, x := range []struct {
		l                 []api.Field
		request, response answer
	}{
		// No such fields.
		{nil, all(none), all(untilClose)},
		{of("Host", "a"), all(none), all(untilClose)},
		{of("Transfer-Encodings", "chunked", "TransferEncoding", "chunked", "Transfer-Encoding ", "x", "", "chunked"), all(none), all(untilClose)},
		{of("Content-Lengths", "1", "Content_Length", "2", "Length", "3"), all(none), all(untilClose)},
		{of("TE", "chunked", "Content-Encoding", "gzip", "Trailer", "Content-Length"), all(none), all(untilClose)},
		// Lengths.
		{sized("0"), all(fixed(0)), all(fixed(0))},
		{sized("5"), all(fixed(5)), all(fixed(5))},
		{sized("007"), all(fixed(7)), all(fixed(7))},
		{of("Host", "a", "CONTENT-length", "12", "X", "13"), all(fixed(12)), all(fixed(12))},
		{sized(greatest), all(fixed(api.MaxSize)), all(fixed(api.MaxSize))},
		{sized("5, 5"), all(fixed(5)), all(fixed(5))},
		{sized("5", "5"), all(fixed(5)), all(fixed(5))},
		{sized("5", " 05 ,,5\t"), all(fixed(5)), all(fixed(5))},
		{of("Content-Length", "5", "x", "6", "content-LENGTH", "5"), all(fixed(5)), all(fixed(5))},
		{sized("5, 6"), form, form},
		{sized("5", "6"), form, form},
		{of("Content-Length", "5", "content-length", "6"), form, form},
		{sized(tooGreat), no(api.ErrBig), no(api.ErrBig)},
		{sized("0" + tooGreat), no(api.ErrBig), no(api.ErrBig)},
		{sized("5", "99999999999999999999999"), no(api.ErrBig), no(api.ErrBig)},
		{sized(tooGreat, "x"), form, form},
		{sized(""), form, form},
		{sized(","), form, form},
		{sized("5", ""), form, form},
		{sized("", "5"), form, form},
		{sized("x"), form, form},
		{sized("-5"), form, form},
		{sized("+5"), form, form},
		{sized("5 5"), form, form},
		{sized("5;a"), form, form},
		{sized("0x5"), form, form},
		{sized("\u0665"), form, form},
		// Chunked alone.
		{coded("chunked"), all(chunks), all(chunks)},
		{coded("CHUNKED"), all(chunks), all(chunks)},
		{coded(" ,\tchunked , "), all(chunks), all(chunks)},
		{coded("", "Chunked", ""), all(chunks), all(chunks)},
		{coded("chunked;a=b"), all(chunks), all(chunks)},
		{coded("chunKed ; a"), all(chunks), all(chunks)},
		{coded("chunked;"), all(chunks), all(chunks)},
		{of("transfer-ENCODING", "chunked", "Host", "gzip"), all(chunks), all(chunks)},
		// Chunked, and others.
		{coded("chunked, chunked"), form, form},
		{coded("chunked", "Chunked"), form, form},
		{coded("chunked;a, chunked;b"), form, form},
		{coded("gzip, chunked, chunked"), form, form},
		{coded("chunked, gzip, chunked"), form, form},
		{coded("chunked, gzip"), form, form},
		{coded("chunked", "gzip"), form, form},
		{coded("gzip, chunked, deflate"), form, form},
		{coded("gzip, chunked"), form, no(api.ErrLimit)},
		{coded("gzip", "chunked"), form, no(api.ErrLimit)},
		{coded("gzip;q=1, GZIP, Chunked;x"), form, no(api.ErrLimit)},
		{of("TRANSFER-ENCODING", "x", "transfer-encoding", "chunked"), form, no(api.ErrLimit)},
		// Codings without chunked.
		{coded("gzip"), form, all(untilClose)},
		{coded("gzip, deflate;a"), form, all(untilClose)},
		{coded("identity"), form, all(untilClose)},
		{coded("chunkedx"), form, all(untilClose)},
		{coded("xchunked"), form, all(untilClose)},
		{coded("chunke"), form, all(untilClose)},
		{coded("gzip;chunked"), form, all(untilClose)},
		{coded("5"), form, all(untilClose)},
		// Values that say no codings.
		{coded(""), form, form},
		{coded("", " , "), form, form},
		{coded(";"), form, form},
		{coded(";chunked"), form, form},
		{coded("chunked chunked"), form, form},
		{coded("chunked, a b"), form, form},
		{coded("a/b", "chunked"), form, form},
		{coded("\"chunked\""), form, form},
		{coded("chunked\v"), form, form},
		{coded("chun\u212aed"), form, form},
		// Lengths beside codings.
		{of("Transfer-Encoding", "chunked", "Content-Length", "5"), form, form},
		{of("content-length", "5", "transfer-encoding", "chunked"), form, form},
		{of("Transfer-Encoding", "chunked", "Content-Length", "0"), form, form},
		{of("Transfer-Encoding", "chunked", "Content-Length", ""), form, form},
		{of("Transfer-Encoding", "chunked", "Content-Length", "x"), form, form},
		{of("Transfer-Encoding", "chunked", "Content-Length", tooGreat), form, form},
		{of("Transfer-Encoding", "chunked", "Content-Length", "5", "Content-Length", "6"), form, form},
		{of("Transfer-Encoding", "gzip", "Content-Length", "5"), form, form},
		{of("Transfer-Encoding", "gzip", "Content-Length", tooGreat), form, form},
		{of("Transfer-Encoding", "gzip, chunked", "Content-Length", "5"), form, form},
		{of("Transfer-Encoding", "gzip, chunked", "Content-Length", tooGreat), form, form},
		{of("Transfer-Encoding", "", "Content-Length", "5"), form, form},
		{of("Transfer-Encoding", "", "Content-Length", tooGreat), form, form},
		{of("Transfer-Encoding", "a b", "Content-Length", "5"), form, form},
	} {
		checkRequest(t, x.l, x.request.framing, x.request.e)
		checkResponse(t, "GET", 200, x.l, x.response.framing, x.response.e)
		checkResponse(t, "CONNECT", 300, x.l, x.response.framing, x.response.e)
		checkFields(t, x.l)
	}
}

// P11.2: Bodiless, of methods just so and statuses at each edge.
func TestBodiless(t *testing.T) {
	statuses := []int{math.MinInt, -204, -100, -1, 0, 1, 99, 100, 101, 150, 199, 200, 201, 203, 204, 205, 299, 300, 303, 304, 305, 399, 400, 404, 499, 500, 999, 1000, 1100, 1204, 2000, math.MaxInt}
	bodiless := map[string][]int{
		"HEAD":    statuses,
		"CONNECT": {100, 101, 150, 199, 200, 201, 203, 204, 205, 299, 304},
	}
	others := []int{100, 101, 150, 199, 204, 304}
	for _, method := range []string{"HEAD", "CONNECT", "GET", "POST", "", "head", "Head", "hEAD", "HEAD ", " HEAD", "HEADS", "HEA", "connect", "Connect", "CONNECT ", "CONNECTS", "CONNEC", "HEAD\x00", "\xff"} {
		want, special := bodiless[method]
		if !special {
			want = others
		}
		for _, status := range statuses {
			if got := Bodiless(method, status); got != slices.Contains(want, status) {
				t.Errorf("Bodiless(%q, %d) = %v", method, status, got)
			}
		}
		for status := -1100; status <= 2500; status++ {
			if got := Bodiless(method, status); got != wantBodiless(method, status) {
				t.Errorf("Bodiless(%q, %d) = %v", method, status, got)
			}
		}
	}
}

// P11.2: a status that is none is told ahead of everything else, and a response without a body ahead of what its fields say.
func TestResponseByStatus(t *testing.T) {
	for _, l := range [][]api.Field{
		nil, sized("7"), sized("x"), sized("5", "6"), sized(tooGreat), coded("chunked"), coded(""), coded("gzip, chunked"), coded("chunked, gzip"),
		of("Transfer-Encoding", "chunked", "Content-Length", "5"), of("Connection", "close", "Content-Length", ""),
	} {
		for _, method := range []string{"GET", "HEAD", "CONNECT", "", "head", "connect"} {
			for _, status := range []int{math.MinInt, -200, -1, 0, 99, 1000, 1204, math.MaxInt} {
				checkResponse(t, method, status, l, api.Framing{}, api.ErrArg)
			}
			for _, status := range []int{100, 150, 199, 204, 304} {
				checkResponse(t, method, status, l, none, api.OK)
			}
			for status := -10; status <= 1010; status++ {
				want, e := wantResponse(method, status, l)
				checkResponse(t, method, status, l, want, e)
			}
		}
		for _, status := range []int{200, 250, 299} {
			checkResponse(t, "CONNECT", status, l, none, api.OK)
		}
		for _, status := range []int{100, 200, 299, 300, 404, 999} {
			checkResponse(t, "HEAD", status, l, none, api.OK)
		}
	}
	for _, status := range []int{200, 203, 205, 299, 300, 303, 305, 404, 500, 999} {
		checkResponse(t, "GET", status, nil, untilClose, api.OK)
		checkResponse(t, "head", status, sized("7"), fixed(7), api.OK)
		checkResponse(t, "connect", status, coded("chunked"), chunks, api.OK)
		checkResponse(t, "Head", status, coded(""), api.Framing{}, api.ErrForm)
	}
	for _, status := range []int{300, 303, 400, 999} {
		checkResponse(t, "CONNECT", status, sized("7"), fixed(7), api.OK)
		checkResponse(t, "CONNECT", status, nil, untilClose, api.OK)
		checkResponse(t, "CONNECT", status, sized("x"), api.Framing{}, api.ErrForm)
	}
}

// P11.3
func TestLastsAndExpects(t *testing.T) {
	for _, x := range []struct {
		l       []api.Field
		lasts   bool
		expects bool
	}{
		{nil, true, false},
		{of("Host", "close", "X", "100-continue"), true, false},
		{of("Connection", "close"), false, false},
		{of("connection", "Close"), false, false},
		{of("CONNECTION", "CLOSE"), false, false},
		{of("Connection", "keep-alive, close"), false, false},
		{of("Connection", "close, keep-alive"), false, false},
		{of("Connection", ",, \tclose ,"), false, false},
		{of("Connection", "keep-alive", "x", "y", "connection", "cloSe"), false, false},
		{of("Connection", "close;a=b"), false, false},
		{of("Connection", "close ; a"), false, false},
		{of("Connection", ""), true, false},
		{of("Connection", "keep-alive"), true, false},
		{of("Connection", "closed"), true, false},
		{of("Connection", "clos"), true, false},
		{of("Connection", "a;close"), true, false},
		{of("Connection", "a close"), true, false},
		{of("Connection", "\"close\""), true, false},
		{of("Connection", "100-continue"), true, false},
		{of("Connection", "clo\u017fe"), true, false},
		{of("Connections", "close", "Proxy-Connection", "close", "Connection ", "close"), true, false},
		{of("Expect", "100-continue"), true, true},
		{of("EXPECT", "100-Continue"), true, true},
		{of("expect", "100-CONTINUE"), true, true},
		{of("Expect", "a, 100-continue, b"), true, true},
		{of("Expect", "\t100-continue ,,"), true, true},
		{of("Expect", "a", "expect", "100-continue"), true, true},
		{of("Expect", "100-continue;a"), true, true},
		{of("Expect", "100-continue ; a=b"), true, true},
		{of("Expect", ""), true, false},
		{of("Expect", "100"), true, false},
		{of("Expect", "100-continues"), true, false},
		{of("Expect", "0100-continue"), true, false},
		{of("Expect", "100 -continue"), true, false},
		{of("Expect", "a=100-continue"), true, false},
		{of("Expect", "close"), true, false},
		{of("Expects", "100-continue", "Connection", "100-continue"), true, false},
		{of("Connection", "close", "Expect", "100-continue"), false, true},
		{of("Connection", "100-continue", "Expect", "close"), true, false},
	} {
		if got := Lasts(x.l); got != x.lasts {
			t.Errorf("Lasts(%q) = %v", x.l, got)
		}
		if got := Expects(x.l); got != x.expects {
			t.Errorf("Expects(%q) = %v", x.l, got)
		}
		checkFields(t, x.l)
	}
}

// P11.1 to P11.3: all lists of few fields, of each that matters.
func TestFewFields(t *testing.T) {
	all := of(
		"Transfer-Encoding", "chunked", "transfer-encoding", "Chunked;a", "Transfer-Encoding", "gzip", "TRANSFER-ENCODING", "", "Transfer-Encoding", "a b", "Transfer-Encoding", "x, chunked", "Transfer-Encoding", "chunked, x", "Transfer-Encoding", "chunked,chunked",
		"Content-Length", "5", "content-length", "05", "CONTENT-LENGTH", "6", "Content-Length", "", "Content-Length", "x", "Content-Length", tooGreat, "Content-Length", "5,5", "Content-Length", "5,6",
		"Connection", "close", "Connection", "a,CLOSE;b", "Expect", "100-continue", "expect", "a;b,100-Continue;c", "Host", "chunked")
	for _, a := range all {
		checkFields(t, []api.Field{a})
		for _, b := range all {
			checkFields(t, []api.Field{a, b})
			for _, c := range all {
				checkFields(t, []api.Field{a, b, c})
			}
		}
	}
}

// P11.1 to P11.3: every byte at each place of a name and of a value.
func TestEveryByte(t *testing.T) {
	for _, right := range of("Transfer-Encoding", "chunked", "Transfer-Encoding", "gzip,chunked", "Content-Length", "15", "Connection", "close", "Expect", "100-continue") {
		whole := right.Name + right.Value
		for at := range len(whole) {
			for c := range 256 {
				for _, text := range []string{whole[:at] + string([]byte{byte(c)}) + whole[at:], whole[:at] + string([]byte{byte(c)}) + whole[at+1:]} {
					cut := len(right.Name)
					if at < cut {
						cut = len(text) - len(right.Value)
					}
					checkFields(t, of(text[:cut], text[cut:]))
				}
			}
			if at < len(right.Name) {
				checkFields(t, of(whole[:at]+whole[at+1:len(right.Name)], right.Value))
			} else {
				checkFields(t, of(right.Name, whole[len(right.Name):at]+whole[at+1:]))
			}
		}
	}
}

// P11.1 and P11.2: lengths about the greatest one, and about what goes round.
func TestSizes(t *testing.T) {
	for _, text := range []string{"0", "1", "9", "10", "4294967295", "4294967296", "4611686018427387902", greatest, tooGreat, "4611686018427387905", "9223372036854775807", "9223372036854775808", "18446744073709551615", "18446744073709551616", "18446744073709551621", strings.Repeat("9", 300), strings.Repeat("0", 300) + "7"} {
		for _, l := range [][]api.Field{sized(text), sized(text + "," + text), sized("0"+text, text), sized(text, "5"), sized("5", text)} {
			checkFields(t, l)
		}
	}
	for n := range uint64(300) {
		checkRequest(t, sized(strconv.FormatUint(n, 10)), fixed(n), api.OK)
		checkResponse(t, "GET", 200, sized(strconv.FormatUint(api.MaxSize-n, 10)), fixed(api.MaxSize-n), api.OK)
	}
}

// P11.1 to P11.3: any fields, any methods, any statuses.
func TestAnyFields(t *testing.T) {
	r := rand.New(rand.NewSource(11))
	pick := func(texts ...string) string { return texts[r.Intn(len(texts))] }
	name := func() string {
		return pick("Transfer-Encoding", "transfer-encoding", "Content-Length", "content-LENGTH", "Connection", "connection", "Expect", "EXPECT", "Host", "", "X-\xff")
	}
	value := func() string {
		var b strings.Builder
		for range r.Intn(5) {
			b.WriteString(pick("chunked", "Chunked", "gzip", "close", "CLOSE", "100-continue", "5", "6", tooGreat, ",", ",", ", ", ";", " ", "\t", "a", "\x00", "\xc3"))
		}
		return b.String()
	}
	for range 20000 {
		var l []api.Field
		for range r.Intn(6) {
			l = append(l, api.Field{Name: name(), Value: value()})
		}
		checkFields(t, l)
		method, status := pick("GET", "HEAD", "CONNECT", "head", "", "\xff"), r.Intn(1200)-100
		want, e := wantResponse(method, status, l)
		checkResponse(t, method, status, l, want, e)
	}
}

// P11.1 to P11.3 with R3 and R4: an empty list is as nil, what is handed in stays as it is, its spare room too, and what is told doesn't change with it.
func TestWhatIsHandedIn(t *testing.T) {
	checkFields(t, []api.Field{})
	fields := of("Content-Length", "5", "Connection", "close", "Expect", "100-continue", "Content-Length", "6", "Transfer-Encoding", "gzip")
	before := slices.Clone(fields)
	checkFields(t, fields[:3])
	checkRequest(t, fields[:3], fixed(5), api.OK)
	checkResponse(t, "GET", 200, fields[:3], fixed(5), api.OK)
	checkFields(t, fields[4:])
	checkFields(t, fields)
	if !slices.Equal(fields, before) {
		t.Errorf("%q, wanted %q", fields, before)
	}
	framing, e := Request(fields[:1])
	fields[0] = api.Field{Name: "Transfer-Encoding", Value: "chunked"}
	if framing != fixed(5) || e != api.OK {
		t.Errorf("%v, %d", framing, e)
	}
	checkRequest(t, fields[:1], chunks, api.OK)
	checkRequest(t, before[:1], fixed(5), api.OK)
}

// R1: several goroutines at once.
func TestSeveralGoroutines(t *testing.T) {
	l := of("Content-Length", "5", "Connection", "a, close", "Expect", "100-continue")
	var wait sync.WaitGroup
	for range 8 {
		wait.Go(func() {
			for range 100 {
				checkFields(t, l)
				checkFields(t, coded("gzip", "chunked"))
			}
		})
	}
	wait.Wait()
}
