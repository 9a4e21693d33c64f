package filter

import (
	"fmt"
	"math/rand"
	"slices"
	"strings"
	"sync"
	"testing"

	"catchpit/api"
)

// wanted tells the chapter's names, written here once more so that the program's own table is not asked what it should hold.
func wanted() []string {
	return strings.Split("Authorization, Cache-Control, Connection, Content-Encoding, Content-Length, Content-Range, Content-Type, Cookie, Expect, Host, If-Match, If-Modified-Since, If-None-Match, If-Range, If-Unmodified-Since, Keep-Alive, Max-Forwards, Pragma, Proxy-Authenticate, Proxy-Authorization, Proxy-Connection, Range, Set-Cookie, TE, Trailer, Transfer-Encoding, Upgrade, WWW-Authenticate", ", ")
}

func f(name, value string) api.Field { return api.Field{Name: name, Value: value} }

// wantAlike holds two names against each other byte by byte; the letters differ by 20 (hexadecimal).
func wantAlike(a, b string) bool {
	if len(a) != len(b) {
		return false
	}
	for i := range len(a) {
		small := a[i] | 0x20
		letter := 'a' <= small && small <= 'z'
		if a[i] != b[i] && !(letter && small == b[i]|0x20) {
			return false
		}
	}
	return true
}

func wantForbidden(name string) bool {
	return slices.ContainsFunc(wanted(), func(w string) bool { return wantAlike(name, w) })
}

// mixed turns the case of each letter at a place that the mask has.
func mixed(name string, mask int) string {
	b := []byte(name)
	for i, c := range b {
		small := c | 0x20
		if mask>>(i%20)&1 == 1 && 'a' <= small && small <= 'z' {
			b[i] = c ^ 0x20
		}
	}
	return string(b)
}

// spellings tells a name in many cases of its letters.
func spellings(name string) []string {
	all := []string{name, strings.ToLower(name), strings.ToUpper(name), mixed(name, 0xfffff), mixed(name, 0x55555), mixed(name, 0xaaaaa)}
	for i := range len(name) {
		all = append(all, mixed(name, 1<<i))
	}
	return all
}

// checkName asks about a name, alone and as the field of a list.
func checkName(t *testing.T, name string) {
	t.Helper()
	want := wantForbidden(name)
	if got := Forbidden(name); got != want {
		t.Errorf("Forbidden(%q) = %v", name, got)
	}
	check(t, []api.Field{f(name, "v")})
}

// check holds what is told of a list against the words of P13.2 and P13.3.
func check(t *testing.T, l []api.Field) {
	t.Helper()
	var keep, drop []api.Field
	for _, x := range l {
		if wantForbidden(x.Name) {
			drop = append(drop, x)
		} else {
			keep = append(keep, x)
		}
	}
	before := slices.Clone(l)
	kept, dropped := Keep(l), Drop(l)
	if !slices.Equal(kept, keep) {
		t.Errorf("Keep(%.200q) = %.200q, wanted %.200q", l, kept, keep)
	}
	if !slices.Equal(dropped, drop) {
		t.Errorf("Drop(%.200q) = %.200q, wanted %.200q", l, dropped, drop)
	}
	checkCount(t, l, len(keep), len(drop))
	if got := Keep(kept); !slices.Equal(got, keep) {
		t.Errorf("Keep of what was kept = %.200q, wanted %.200q", got, keep)
	}
	if got := Drop(dropped); !slices.Equal(got, drop) {
		t.Errorf("Drop of what was dropped = %.200q, wanted %.200q", got, drop)
	}
	if got := Drop(kept); len(got) != 0 {
		t.Errorf("Drop of what was kept = %.200q", got)
	}
	if got := Keep(dropped); len(got) != 0 {
		t.Errorf("Keep of what was dropped = %.200q", got)
	}
	checkCount(t, kept, len(keep), 0)
	checkCount(t, dropped, 0, len(drop))
	if !slices.Equal(l, before) {
		t.Errorf("the list %.200q became %.200q", before, l)
	}
}

func checkCount(t *testing.T, l []api.Field, kept, dropped int) {
	t.Helper()
	if k, d := Count(l); k != kept || d != dropped {
		t.Errorf("Count(%.200q) = %d, %d, wanted %d, %d", l, k, d, kept, dropped)
	}
}

// P13.1: the chapter's example, and names that stand near those of the table.
func TestForbidden(t *testing.T) {
	for _, x := range []struct {
		name string
		want bool
	}{
		{"content-length", true},
		{"X-Sum", false},
		{"Host", true},
		{"hOsT", true},
		{"TE", true},
		{"te", true},
		{"tE", true},
		{"Te", true},
		{"WWW-Authenticate", true},
		{"www-authenticate", true},
		{"Authorization", true},
		{"Range", true},
		{"If-Range", true},
		{"Content-Range", true},
		{"", false},
		{"T", false},
		{"E", false},
		{"TEE", false},
		{"ET", false},
		{"Hos", false},
		{"Hosts", false},
		{" Host", false},
		{"Host ", false},
		{"Host:", false},
		{"Host\x00", false},
		{"Host, TE", false},
		{"Host\r\n", false},
		{"Content-", false},
		{"Content", false},
		{"Length", false},
		{"-", false},
		{"If", false},
		{"Proxy", false},
		{"Content_Length", false},
		{"ContentLength", false},
		{"Content\rLength", false},
		{"Accept", false},
		{"Accept-Ranges", false},
		{"Age", false},
		{"Content-Language", false},
		{"Content-Location", false},
		{"Content-MD5", false},
		{"Date", false},
		{"Digest", false},
		{"ETag", false},
		{"Expires", false},
		{"Location", false},
		{"Server-Timing", false},
		{"Trailers", false},
		{"Vary", false},
		{"Via", false},
		{"Warning", false},
		{"Cookie2", false},
		{"Set-Cookie2", false},
		{"\u212aeep-Alive", false}, // the sign of kelvins, a small k in Unicode
		{"Ho\u017ft", false},       // the long s, a great S in Unicode
		{"Co\xf6kie", false},
	} {
		if got := Forbidden(x.name); got != x.want {
			t.Errorf("Forbidden(%q) = %v", x.name, got)
		}
		checkName(t, x.name)
	}
}

// P13.1: each of the names, however its letters are written.
func TestEachNameInEachSpelling(t *testing.T) {
	for _, name := range wanted() {
		for _, s := range spellings(name) {
			if !Forbidden(s) {
				t.Errorf("Forbidden(%q) = false", s)
			}
			check(t, []api.Field{f(s, "")})
		}
		for mask := range 1 << min(len(name), 10) {
			if s := mixed(name, mask); !Forbidden(s) {
				t.Errorf("Forbidden(%q) = false", s)
			}
		}
	}
}

// P13.1: names that are one byte longer, at each place, one byte shorter, or differ by one byte, each byte there.
func TestNamesNearby(t *testing.T) {
	for _, name := range wanted() {
		for at := range len(name) + 1 {
			for c := range 256 {
				s := string([]byte{byte(c)})
				longer := name[:at] + s + name[at:]
				if got := Forbidden(longer); got != wantForbidden(longer) {
					t.Errorf("Forbidden(%q) = %v", longer, got)
				}
				if at == len(name) {
					continue
				}
				other := name[:at] + s + name[at+1:]
				if got := Forbidden(other); got != wantForbidden(other) {
					t.Errorf("Forbidden(%q) = %v", other, got)
				}
			}
			if at < len(name) {
				checkName(t, name[:at]+name[at+1:])
				checkName(t, name[:at])
				checkName(t, name[at:])
			}
		}
	}
}

// P13.1: every short name, all bytes of it.
func TestEveryShortName(t *testing.T) {
	checkName(t, "")
	for i := range 256 {
		checkName(t, string([]byte{byte(i)}))
		for j := range 256 {
			s := string([]byte{byte(i), byte(j)})
			if got, want := Forbidden(s), i|0x20 == 't' && j|0x20 == 'e'; got != want {
				t.Errorf("Forbidden(%q) = %v", s, got)
			}
		}
	}
}

// P13.1: a name is what it is, however long.
func TestLongNames(t *testing.T) {
	for _, s := range []string{strings.Repeat("Host", 1<<16), strings.Join(wanted(), ", "), strings.Repeat("\x00", 1<<16), "Host" + strings.Repeat(" ", 1<<16)} {
		checkName(t, s)
	}
}

// firstNames tells the first n names, stopping at the last of these.
func firstNames(n int) []string {
	var told []string
	for name := range Names() {
		told = append(told, name)
		if len(told) == n {
			break
		}
	}
	return told
}

// P13.1: to the end, and stopped at each.
func TestNames(t *testing.T) {
	want := wanted()
	if len(want) != 28 {
		t.Fatal(len(want))
	}
	if got := slices.Collect(Names()); !slices.Equal(got, want) {
		t.Errorf("%q, wanted %q", got, want)
	}
	for n := 1; n <= len(want)+1; n++ {
		if got := firstNames(n); !slices.Equal(got, want[:min(n, len(want))]) {
			t.Errorf("the first %d: %q", n, got)
		}
	}
}

// P13.1: what asked it to stop isn't told anything more, at any place.
func TestNamesStopWhenAsked(t *testing.T) {
	for stop := range 30 {
		calls := 0
		Names()(func(string) bool {
			calls++
			return calls <= stop
		})
		if want := min(stop+1, 28); calls != want {
			t.Errorf("asked to stop at %d, it told %d names, wanted %d", stop, calls, want)
		}
	}
}

// P13.1 with R6: from the beginning on each time, one going through within another one too.
func TestNamesFromTheBeginningEachTime(t *testing.T) {
	names, want := Names(), wanted()
	for stop := range want {
		n := 0
		for name := range names {
			if name != want[n] {
				t.Fatalf("stopped at %d: %q at %d", stop, name, n)
			}
			if n == stop {
				break
			}
			n++
		}
		if got := slices.Collect(names); !slices.Equal(got, want) {
			t.Errorf("behind a stop at %d: %q", stop, got)
		}
	}
	outer := 0
	for name := range names {
		if got := slices.Collect(names); !slices.Equal(got, want) {
			t.Errorf("within: %q", got)
		}
		if name != want[outer] {
			t.Errorf("%q at %d", name, outer)
		}
		outer++
	}
	if outer != len(want) {
		t.Errorf("%d names", outer)
	}
}

// P13.1 with P13.2: each name that is told is forbidden and dropped.
func TestEachNameThatIsToldIsForbidden(t *testing.T) {
	for name := range Names() {
		if !Forbidden(name) {
			t.Errorf("Forbidden(%q) = false", name)
		}
		if got := Drop([]api.Field{f(name, "1")}); !slices.Equal(got, []api.Field{f(name, "1")}) {
			t.Errorf("Drop of %q = %q", name, got)
		}
		if got := Keep([]api.Field{f(name, "1")}); len(got) != 0 {
			t.Errorf("Keep of %q = %q", name, got)
		}
	}
}

// P13.2: lists written out, and the places of those that are kept.
func TestKeepAndDrop(t *testing.T) {
	for _, x := range []struct {
		l             []api.Field
		kept, dropped []int
	}{
		{nil, nil, nil},
		{[]api.Field{}, nil, nil},
		{[]api.Field{f("X-Sum", "1")}, []int{0}, nil},
		{[]api.Field{f("Host", "1")}, nil, []int{0}},
		{[]api.Field{f("Host", "1"), f("X-Sum", "2")}, []int{1}, []int{0}},
		{[]api.Field{f("X-Sum", "1"), f("Host", "2")}, []int{0}, []int{1}},
		{[]api.Field{f("a", "1"), f("te", "2"), f("b", "3"), f("TE", "4"), f("c", "5")}, []int{0, 2, 4}, []int{1, 3}},
		{[]api.Field{f("te", "1"), f("a", "2"), f("TE", "3"), f("b", "4"), f("tE", "5")}, []int{1, 3}, []int{0, 2, 4}},
		{[]api.Field{f("a", "1"), f("a", "2"), f("A", "3"), f("a", "1")}, []int{0, 1, 2, 3}, nil},
		{[]api.Field{f("Range", "1"), f("Range", "2"), f("range", "3"), f("Range", "1")}, nil, []int{0, 1, 2, 3}},
		{[]api.Field{f("z", "1"), f("Upgrade", "2"), f("a", "3"), f("Authorization", "4")}, []int{0, 2}, []int{1, 3}},
		// the value is nothing to it, and neither is whether the field is right
		{[]api.Field{f("a", "Host"), f("b", "TE"), f("Host", "a"), f("TE", "")}, []int{0, 1}, []int{2, 3}},
		{[]api.Field{f("", ""), f("", "Host"), f("Host ", "1"), f(" Host", "2"), f("Host:", "3"), f("Host", " \r\n")}, []int{0, 1, 2, 3, 4}, []int{5}},
		{[]api.Field{f("\x00", "\x00"), f("Host\xff", "\xff"), f("COOKIE", "\x7f"), f("\u00e4", "\u00e4")}, []int{0, 1, 3}, []int{2}},
	} {
		if got, want := Keep(x.l), at(x.l, x.kept); !slices.Equal(got, want) {
			t.Errorf("Keep(%q) = %q, wanted %q", x.l, got, want)
		}
		if got, want := Drop(x.l), at(x.l, x.dropped); !slices.Equal(got, want) {
			t.Errorf("Drop(%q) = %q, wanted %q", x.l, got, want)
		}
		checkCount(t, x.l, len(x.kept), len(x.dropped))
		check(t, x.l)
	}
}

// at tells the fields at the places.
func at(l []api.Field, places []int) []api.Field {
	var some []api.Field
	for _, n := range places {
		some = append(some, l[n])
	}
	return some
}

// P13.2 and P13.3: every list of up to five fields out of few, each with a value of its own.
func TestEveryShortList(t *testing.T) {
	names := []string{"a", "Host", "hOST", "", "Trailer", "Trailers"}
	lists := [][]api.Field{nil}
	for range 5 {
		var longer [][]api.Field
		for _, l := range lists {
			check(t, l)
			for _, name := range names {
				longer = append(longer, append(slices.Clone(l), f(name, fmt.Sprint(len(l)))))
			}
		}
		lists = longer
	}
	for _, l := range lists {
		check(t, l)
	}
}

// anyName tells a name of the table in any spelling, one near to it, or another one.
func anyName(r *rand.Rand) string {
	all := wanted()
	name := mixed(all[r.Intn(len(all))], r.Intn(1<<20))
	switch r.Intn(5) {
	case 0:
		n := r.Intn(len(name))
		return name[:n] + name[n+1:]
	case 1:
		n := r.Intn(len(name) + 1)
		return name[:n] + string([]byte{byte(r.Intn(256))}) + name[n:]
	case 2:
		n := r.Intn(len(name))
		return name[:n] + string([]byte{name[n] ^ 1<<r.Intn(8)}) + name[n+1:]
	case 3:
		return "X-Sum"[:r.Intn(6)]
	}
	return name
}

// P13.2 and P13.3: any lists, long ones too.
func TestAnyList(t *testing.T) {
	r := rand.New(rand.NewSource(13))
	for range 2000 {
		l := make([]api.Field, r.Intn(30))
		for i := range l {
			l[i] = f(anyName(r), fmt.Sprint(r.Intn(3)))
		}
		check(t, l)
	}
	long := make([]api.Field, 20000)
	for i := range long {
		long[i] = f(anyName(r), fmt.Sprint(i))
	}
	check(t, long)
}

// P13.2 with R3: nil and a list without fields are one.
func TestNoFields(t *testing.T) {
	for _, l := range [][]api.Field{nil, {}, sample()[:0]} {
		if kept, dropped := Keep(l), Drop(l); len(kept) != 0 || len(dropped) != 0 {
			t.Errorf("%q: %q, %q", l, kept, dropped)
		}
		checkCount(t, l, 0, 0)
	}
}

// sample tells a list of fields that are kept and dropped, several of one name.
func sample() []api.Field {
	return []api.Field{f("a", "1"), f("Host", "2"), f("A", "3"), f("HOST", "4"), f("TE", "5"), f("a", "1"), f("", "6"), f("b", "")}
}

// P13.2 with R4: what is handed in stays as it is, spare room included.
func TestWhatIsHandedInIsNotChanged(t *testing.T) {
	spare := f("spare", "room")
	whole := append(sample(), spare, f("Host", "spare"), spare)
	want := slices.Clone(whole)
	for n := range len(whole) {
		l := whole[:n]
		Keep(l)
		Drop(l)
		Count(l)
		if !slices.Equal(whole, want) {
			t.Fatalf("with %d of them, the list became %q", n, whole)
		}
	}
}

// P13.2 with R4: what is answered shares no memory with the list or with another answer, spare room included.
func TestAnswersAreNewMemory(t *testing.T) {
	over := f("over", "written")
	calls := map[string]func(l []api.Field) []api.Field{"Keep": Keep, "Drop": Drop}
	lists := [][]api.Field{sample(), {f("a", "1")}, {f("Host", "1")}, {f("a", "1"), f("b", "2"), f("c", "3")}, {f("Host", "1"), f("TE", "2"), f("Range", "3")}}
	for name, call := range calls {
		for _, l := range lists {
			l := slices.Clone(l)
			before := slices.Clone(l)
			first, second, third := call(l), call(l), Drop(l)
			want, wantThird := slices.Clone(first), slices.Clone(third)
			overwrite(second, over)
			if !slices.Equal(l, before) || !slices.Equal(first, want) || !slices.Equal(third, wantThird) {
				t.Errorf("%s of %q: what is written into an answer is seen elsewhere", name, before)
			}
			overwrite(l, over)
			if !slices.Equal(first, want) || !slices.Equal(third, wantThird) {
				t.Errorf("%s of %q: what is written into the list is seen in the answer", name, before)
			}
			overwrite(first, over)
			if again := call(before); !slices.Equal(again, want) {
				t.Errorf("%s of %q, again: %q", name, before, again)
			}
		}
	}
}

// overwrite writes x all over l and its spare room.
func overwrite(l []api.Field, x api.Field) {
	l = l[:cap(l)]
	for i := range l {
		l[i] = x
	}
}

// P13.1 and P13.2 with R5: what was asked before makes no difference.
func TestTheSameIsAnsweredAgain(t *testing.T) {
	for range 3 {
		for _, name := range []string{"Host", "X-Sum", "", "hosts", "trailer"} {
			checkName(t, name)
		}
		check(t, sample())
		check(t, nil)
		if got := slices.Collect(Names()); !slices.Equal(got, wanted()) {
			t.Errorf("%q", got)
		}
	}
}

// R1: several goroutines at once, with one iterator and one list.
func TestSeveralGoroutines(t *testing.T) {
	names, l := Names(), sample()
	var wait sync.WaitGroup
	for range 8 {
		wait.Go(func() {
			for range 50 {
				if got := slices.Collect(names); !slices.Equal(got, wanted()) {
					t.Errorf("%q", got)
				}
				check(t, l)
				checkName(t, "tE")
			}
		})
	}
	wait.Wait()
}
