package name_test

import (
	"slices"
	"strings"
	"testing"

	"nameplate/api"
	"nameplate/label"
	"nameplate/name"
)

// wire is the name of labels, put together without a look at whether they may be.
func wire(labels ...string) api.Name {
	var octets []byte
	for _, l := range labels {
		octets = append(octets, byte(len(l)))
		octets = append(octets, l...)
	}
	return api.Name(octets)
}

// fromOctet is the string of one octet.
func fromOctet(c int) string { return string([]byte{byte(c)}) }

// small is labels as short as can be whose name has n octets, from 2 on.
func small(n int) []string {
	l := slices.Repeat([]string{"a"}, n/2)
	if n%2 == 1 {
		l[len(l)-1] = "aa"
	}
	return l
}

// great is four labels, the last of k octets, whose name has 193 octets and k.
func great(k int) []string {
	full := strings.Repeat("B", 63)
	return []string{full, full, full, strings.Repeat("b", k)}
}

// parts is the tests' own reading of a name: its labels, and whether it may be.
func parts(n api.Name) ([]string, bool) {
	var l []string
	for at := 0; at < len(n); {
		k := int(n[at])
		if k < 1 || k > 63 || at+k >= len(n) {
			return nil, false
		}
		l = append(l, string(n[at+1:at+1+k]))
		at += 1 + k
	}
	if len(n) > 254 {
		return nil, false
	}
	return l, true
}

// good is a row of names that may be.
func good() []api.Name {
	l := []api.Name{
		"", wire("a"), wire("A"), wire("b"), wire("www", "a"), wire("WWW", "A"), wire("a", "b"), wire("b", "a"), wire("ab"),
		wire("a.b"), wire("a", "b", "c"), wire("B", "C"), wire("*"), wire("*", "a"), wire("*", "A"), wire("x", "*", "a"), wire("**", "a"), wire("*", "*", "a"),
		wire("b", "*", "a"), wire("*a"), wire("\\", "."), wire("\x00", "a"), wire("\xff", "a"), wire("\x01a", "b"), wire("a", "\x01b"), wire("\x01a\x01b"),
		wire("é", "É"), wire("a", "a", "a"), wire("aA", "Aa"),
		wire(small(253)...), wire(small(254)...), wire(great(1)...), wire(great(60)...), wire(great(61)...),
		wire(strings.Repeat("A", 63)), wire(strings.Repeat("*", 63), "*"),
	}
	for c := range 256 {
		l = append(l, wire(fromOctet(c)), wire("x"+fromOctet(c), "y"))
	}
	return l
}

// bad is a row of names that may not be, with what Check tells of each.
func bad() map[api.Name]api.Errno {
	m := map[api.Name]api.Errno{
		"\x00": api.ErrBad, "\x00\x00": api.ErrBad, "\x01a\x00": api.ErrBad, "\x00\x01a": api.ErrBad, "\x01a\x00\x01b": api.ErrBad,
		"\x01": api.ErrBad, "\x02a": api.ErrBad, "\x01a\x01": api.ErrBad, "\x01a\x02b": api.ErrBad, "\x01*\x02b": api.ErrBad, "\x3fa": api.ErrBad, "\x01ab": api.ErrBad,
		"a": api.ErrBad, "www.a": api.ErrBad, "*": api.ErrBad, ".": api.ErrBad, "\xc0\x00": api.ErrBad, "\x01a\xc0\x00": api.ErrBad, "\xff": api.ErrBad,
		wire(strings.Repeat("a", 64)): api.ErrBad, wire("a", strings.Repeat("a", 64), "a"): api.ErrBad, wire(strings.Repeat("a", 253)): api.ErrBad,
		wire(small(254)[:126]...) + "\x02a":                       api.ErrBad,
		wire(small(253)...) + "\x00":                              api.ErrBad,
		api.Name(strings.Repeat("\x00", 254)):                     api.ErrBad,
		wire(small(254)...) + "\x00":                              api.ErrLong,
		wire(small(255)...):                                       api.ErrLong,
		wire(small(256)...):                                       api.ErrLong,
		wire(small(1000)...):                                      api.ErrLong,
		wire(great(62)...):                                        api.ErrLong,
		wire(great(63)...):                                        api.ErrLong,
		wire(great(64)...):                                        api.ErrLong,
		wire(strings.Repeat("a", 254)):                            api.ErrLong,
		api.Name(strings.Repeat("\x00", 255)):                     api.ErrLong,
		api.Name(strings.Repeat("\xff", 255)):                     api.ErrLong,
		"\x00" + wire(small(254)...):                              api.ErrLong,
		wire(append([]string{"*"}, small(254)...)...):             api.ErrLong,
		api.Name(strings.Repeat("\x01a", api.MaxLabels) + "\x01"): api.ErrLong,
	}
	return m
}

// P2.1: Make.
func TestMakes(t *testing.T) {
	for _, row := range [][]string{
		nil, {}, {"a"}, {"www", "a"}, {"WwW", "A"}, {"*", "a"}, {"a.b"}, {"."}, {"\\046"}, {"\x00"}, {"\xff", "\x00", "é"}, {"\x01a", "b"},
		{strings.Repeat("a", 63)}, {strings.Repeat("\x00", 63), "a"}, small(253), small(254), great(60), great(61),
	} {
		if n, e := name.Make(row); e != api.OK || n != wire(row...) {
			t.Errorf("Make of %q: %q, %d", row, n, e)
		}
	}
	if n, e := name.Make([]string{"www", "a"}); e != api.OK || n != "\x03www\x01a" {
		t.Errorf("Make of www, a: %q, %d", n, e)
	}
}

func TestMakeTheFirstError(t *testing.T) {
	over := strings.Repeat("a", 64)
	for _, r := range []struct {
		labels []string
		e      api.Errno
	}{
		{[]string{""}, api.ErrArg},
		{[]string{"a", ""}, api.ErrArg},
		{[]string{"", "a"}, api.ErrArg},
		{[]string{over}, api.ErrLong},
		{[]string{"a", over, "a"}, api.ErrLong},
		{[]string{"", over}, api.ErrArg},
		{[]string{over, ""}, api.ErrLong},
		{[]string{strings.Repeat("a", 256)}, api.ErrLong},
		{[]string{strings.Repeat("a", 257), ""}, api.ErrLong},
		{small(255), api.ErrLong},
		{small(256), api.ErrLong},
		{small(100_000), api.ErrLong},
		{great(62), api.ErrLong},
		{great(63), api.ErrLong},
		{append(small(256), ""), api.ErrArg},
		{append(small(100_000), ""), api.ErrArg},
		{append(great(63), over, ""), api.ErrLong},
	} {
		if n, e := name.Make(r.labels); e != r.e || n != "" {
			t.Errorf("Make of %d labels from %.9q on: %q, %d, not %d", len(r.labels), r.labels[0], n, e, r.e)
		}
	}
}

// What is handed in is neither changed, nor is its spare room.
func TestMakeLeavesItsLabels(t *testing.T) {
	row := []string{"WWW", "A", "spare", "room"}
	if n, e := name.Make(row[:2]); e != api.OK || n != "\x03WWW\x01A" {
		t.Errorf("Make: %q, %d", n, e)
	}
	if !slices.Equal(row, []string{"WWW", "A", "spare", "room"}) {
		t.Errorf("Make has changed its labels: %q", row)
	}
}

// P2.1: Check.
func TestCheck(t *testing.T) {
	for _, n := range good() {
		if e := name.Check(n); e != api.OK {
			t.Errorf("Check of %q: %d", n, e)
		}
	}
	for n, want := range bad() {
		if e := name.Check(n); e != want {
			t.Errorf("Check of %q: %d, not %d", n, e, want)
		}
	}
}

func TestCheckEachLength(t *testing.T) {
	for k := range 256 {
		for has := range 260 {
			n := api.Name(fromOctet(k) + strings.Repeat("\x80", has)) // an octet that is no length itself
			want := api.ErrBad
			switch {
			case has+1 > 254:
				want = api.ErrLong
			case has == k && 1 <= k && k <= 63:
				want = api.OK
			}
			if e := name.Check(n); e != want {
				t.Errorf("Check of the length %d and %d octets: %d, not %d", k, has, e, want)
			}
			if has > 180 {
				continue
			}
			if e := name.Check("\x3f" + api.Name(strings.Repeat("a", 63)) + n); e != want {
				t.Errorf("Check of the length %d and %d octets behind a label: %d, not %d", k, has, e, want)
			}
		}
	}
}

// P2.1: Labels.
func TestLabels(t *testing.T) {
	for _, n := range good() {
		want, _ := parts(n)
		if got := name.Labels(n); !slices.Equal(got, want) {
			t.Errorf("Labels of %q: %q", n, got)
		}
	}
	for n := range bad() {
		if got := name.Labels(n); len(got) != 0 {
			t.Errorf("Labels of %q: %q", n, got)
		}
	}
}

func TestLabelsAreNewEachTime(t *testing.T) {
	n := wire("www", "a", "b")
	first := name.Labels(n)
	_ = append(first, "more")
	first[0] = "other"
	if second := name.Labels(n); !slices.Equal(second, []string{"www", "a", "b"}) {
		t.Errorf("Labels, once those of ahead were changed: %q", second)
	}
}

// P2.2: Text and Read, there and back.
func TestTexts(t *testing.T) {
	for text, n := range map[string]api.Name{
		".":                                      "",
		"a.":                                     wire("a"),
		"www.a.":                                 wire("www", "a"),
		"WwW.A.":                                 wire("WwW", "A"),
		"*.a.":                                   wire("*", "a"),
		"a\\.b.c.":                               wire("a.b", "c"),
		"\\..":                                   wire("."),
		"\\\\.\\\\\\..":                          wire("\\", "\\."),
		"a\\000.\\255.":                          wire("a\x00", "\xff"),
		"\\032.a.":                               wire(" ", "a"),
		"\\195\\169.":                            wire("é"),
		strings.Repeat("a.", 127):                wire(small(254)...),
		strings.Repeat("\\000", 63) + ".":        wire(strings.Repeat("\x00", 63)),
		strings.Join(great(61), ".") + ".":       wire(great(61)...),
		"_tcp._" + strings.Repeat("x", 62) + ".": wire("_tcp", "_"+strings.Repeat("x", 62)),
	} {
		if got, e := name.Text(n); e != api.OK || got != text {
			t.Errorf("Text of %q: %q, %d", n, got, e)
		}
		if got, e := name.Read(text); e != api.OK || got != n {
			t.Errorf("Read of %q: %q, %d", text, got, e)
		}
		if text == "." {
			continue
		}
		if got, e := name.Read(text[:len(text)-1]); e != api.OK || got != n {
			t.Errorf("Read of %q without its last dot: %q, %d", text, got, e)
		}
	}
}

func TestTextOfEachLabel(t *testing.T) {
	for c := range 256 {
		part, _ := label.Text("x" + fromOctet(c))
		if got, e := name.Text(wire("a", "x"+fromOctet(c), "b")); e != api.OK || got != "a."+part+".b." {
			t.Errorf("Text with the octet %d: %q, %d", c, got, e)
		}
	}
}

func TestTextHasChecksErrors(t *testing.T) {
	for n, want := range bad() {
		if text, e := name.Text(n); e != want || text != "" {
			t.Errorf("Text of %q: %q, %d, not %d", n, text, e, want)
		}
	}
}

func TestReadsWhatTextDoesNotWrite(t *testing.T) {
	for s, want := range map[string]api.Name{
		"www.a":           wire("www", "a"),
		"a\\.b":           wire("a.b"),
		"a\\.":            wire("a."),
		"\\.":             wire("."),
		"\\.\\.":          wire(".."),
		"\\097.\\B":       wire("a", "B"),
		"\\046.a":         wire(".", "a"),
		"\\ .a":           wire(" ", "a"),
		"a\\\\.":          wire("a\\"),
		"a\\\\":           wire("a\\"),
		"\\0651.a":        wire("A1", "a"),
		"*":               wire("*"),
		"\\*.a":           wire("*", "a"),
		"\\042.a":         wire("*", "a"),
		"127.0.0.1":       wire("127", "0", "0", "1"),
		"a.b.c.d.e.f.g.h": wire("a", "b", "c", "d", "e", "f", "g", "h"),
	} {
		if got, e := name.Read(s); e != api.OK || got != want {
			t.Errorf("Read of %q: %q, %d", s, got, e)
		}
	}
}

func TestReadWrongTexts(t *testing.T) {
	over := strings.Repeat("a", 64)
	tooMany := strings.Join(small(256), ".")
	for s, want := range map[string]api.Errno{
		"":                  api.ErrArg,
		"..":                api.ErrArg,
		".a":                api.ErrArg,
		".a.":               api.ErrArg,
		"a..":               api.ErrArg,
		"a..b":              api.ErrArg,
		"a.b..":             api.ErrArg,
		"...":               api.ErrArg,
		". ":                api.ErrArg,
		"\\...":             api.ErrArg,
		" ":                 api.ErrText,
		"a b":               api.ErrText,
		"a. .b":             api.ErrText,
		"a.\\":              api.ErrText,
		"\\":                api.ErrText,
		"a.\\1.b":           api.ErrText,
		"a.\\256":           api.ErrText,
		"a.b\x00":           api.ErrText,
		"é.a":               api.ErrText,
		"a.é":               api.ErrText,
		"a.b\n":             api.ErrText,
		over:                api.ErrLong,
		"a." + over:         api.ErrLong,
		over + ".":          api.ErrLong,
		"..\\":              api.ErrArg,
		"\\..\\":            api.ErrText,
		"a..\\":             api.ErrArg,
		"a.\\..":            api.OK,
		over + "..":         api.ErrLong,
		over + ".\\":        api.ErrLong,
		"a..b." + over:      api.ErrArg,
		"a.\\." + over:      api.ErrLong,
		"\\." + over + "..": api.ErrLong,
		tooMany:             api.ErrLong,
		tooMany + ".":       api.ErrLong,
		tooMany + "..":      api.ErrArg,
		tooMany + ".\\":     api.ErrText,
		tooMany + ". ":      api.ErrText,
		tooMany + ".b..":    api.ErrArg,
		tooMany + ".\\999.": api.ErrText,
	} {
		n, e := name.Read(s)
		if e != want || e != api.OK && n != "" {
			t.Errorf("Read of %.20q: %q, %d, not %d", s, n, e, want)
		}
	}
}

// Too long is what the octets are, not what they are written as.
func TestReadHowLong(t *testing.T) {
	for n := 2; n < 600; n++ {
		row := small(n)
		var written []string
		for _, l := range row {
			written = append(written, strings.Repeat("\\097", len(l)))
		}
		for _, s := range []string{strings.Join(row, "."), strings.Join(row, ".") + ".", strings.Join(written, ".")} {
			got, e := name.Read(s)
			if n <= 254 && (e != api.OK || got != wire(row...)) || n > 254 && (e != api.ErrLong || got != "") {
				t.Errorf("Read of a name of %d octets: %q, %d", n, got, e)
			}
		}
	}
	for k, want := range map[int]api.Errno{60: api.OK, 61: api.OK, 62: api.ErrLong, 63: api.ErrLong, 64: api.ErrLong} {
		if n, e := name.Read(strings.Join(great(k), ".")); e != want || (n == "") != (e != api.OK) {
			t.Errorf("Read of great labels, the last of %d: %q, %d", k, n, e)
		}
	}
	many := strings.Repeat("a.", 1<<20)
	if n, e := name.Read(many); e != api.ErrLong || n != "" {
		t.Errorf("Read of many labels: %q, %d", n, e)
	}
	if n, e := name.Read(many + "."); e != api.ErrArg || n != "" {
		t.Errorf("Read of many labels and a dot: %q, %d", n, e)
	}
}

// P2.3: Fold and Same.
func TestFold(t *testing.T) {
	for n, want := range map[api.Name]api.Name{
		"":                            "",
		wire("WwW", "A"):              wire("www", "a"),
		wire("@AZ[`az{", "É"):         wire("@az[`az{", "É"),
		wire("*", "A.B"):              wire("*", "a.b"),
		wire(strings.Repeat("Z", 63)): wire(strings.Repeat("z", 63)),
		wire(great(61)...):            api.Name(strings.ToLower(string(wire(great(61)...)))),
	} {
		if got := name.Fold(n); got != want {
			t.Errorf("Fold of %q: %q", n, got)
		}
	}
	for _, n := range good() {
		row, _ := parts(n)
		var folded []string
		for _, l := range row {
			folded = append(folded, label.Fold(l))
		}
		if got := name.Fold(n); got != wire(folded...) || name.Fold(got) != got {
			t.Errorf("Fold of %q: %q", n, got)
		}
	}
}

func TestSame(t *testing.T) {
	for _, r := range []struct {
		a, b api.Name
		same bool
	}{
		{"", "", true},
		{"", wire("a"), false},
		{wire("a"), wire("A"), true},
		{wire("www", "a"), wire("WWW", "a"), true},
		{wire("www", "a"), wire("www", "A"), true},
		{wire("a", "b"), wire("b", "a"), false},
		{wire("a", "b"), wire("a"), false},
		{wire("a", "b"), wire("b"), false},
		{wire("a.b"), wire("a", "b"), false},
		{wire("["), wire("{"), false},
		{wire("@"), wire("`"), false},
		{wire("é"), wire("É"), false},
		{wire("\x01a\x01b"), wire("a", "b"), false},
		{wire("*", "a"), wire("b", "a"), false},
		{wire(great(61)...), api.Name(strings.ToUpper(string(wire(great(61)...)))), true},
	} {
		if name.Same(r.a, r.b) != r.same || name.Same(r.b, r.a) != r.same {
			t.Errorf("Same of %q, %q isn't %t", r.a, r.b, r.same)
		}
	}
}

// P2.3: Compare. Each name is ahead of those behind it; in one row all are the same.
func TestCompareInOrder(t *testing.T) {
	rows := [][]api.Name{
		{"", "\x00", "\x02a", wire(small(256)...), "*"},
		{wire("\x00")},
		{wire("*")},
		{wire("a"), wire("A")},
		{wire("\x00", "a")},
		{wire("*", "a"), wire("*", "A")},
		{wire("*", "*", "a")},
		{wire("b", "*", "a"), wire("B", "*", "A")},
		{wire("[", "a")},
		{wire("b", "a"), wire("B", "A")},
		{wire("\xff", "\xff", "b", "a")},
		{wire("bb", "a")},
		{wire("\xff", "a")},
		{wire("a.a")},
		{wire("aa")},
		{wire("b")},
		{wire("a", "b"), wire("A", "b")},
		{wire("example")},
		{wire("a", "example")},
		{wire("yljkjljk", "a", "example")},
		{wire("Z", "a", "example"), wire("z", "A", "example")},
		{wire("zABC", "a", "EXAMPLE")},
		{wire("z", "example")},
		{wire("\x01", "z", "example")},
		{wire("*", "z", "example")},
		{wire("\xc8", "z", "example")},
		{wire("\xff")},
		{wire("\x00", "\xff")},
	}
	for i, row := range rows {
		for j, other := range rows {
			for _, a := range row {
				for _, b := range other {
					want := 0
					switch {
					case i < j:
						want = -1
					case i > j:
						want = 1
					}
					if got := name.Compare(a, b); got != want {
						t.Errorf("Compare of %q, %q: %d, not %d", a, b, got, want)
					}
				}
			}
		}
	}
}

// P2.3: Under.
func TestUnder(t *testing.T) {
	for _, r := range []struct {
		n, of api.Name
		under bool
	}{
		{"", "", true},
		{wire("a"), "", true},
		{"", wire("a"), false},
		{wire("a"), wire("a"), true},
		{wire("a"), wire("A"), true},
		{wire("b", "a"), wire("a"), true},
		{wire("c", "B", "a"), wire("b", "A"), true},
		{wire("c", "b", "a"), wire("a"), true},
		{wire("a"), wire("b", "a"), false},
		{wire("b", "a"), wire("b"), false},
		{wire("c", "b", "a"), wire("c", "a"), false},
		{wire("c", "b", "a"), wire("c", "b"), false},
		{wire("ba"), wire("a"), false},
		{wire("b.a"), wire("a"), false},
		{wire("b\x01a"), wire("a"), false},
		{wire("x\x01b", "a"), wire("b", "a"), false},
		{wire("b", "a"), wire("c", "a"), false},
		{wire("b", "a"), wire("*", "a"), false},
		{wire("x", "*", "a"), wire("*", "a"), true},
		{wire(small(254)...), wire(small(252)...), true},
		{wire(small(252)...), wire(small(254)...), false},
		{wire("["), wire("{"), false},
	} {
		if got := name.Under(r.n, r.of); got != r.under {
			t.Errorf("Under of %q, %q: %t", r.n, r.of, got)
		}
	}
}

// P2.3: Parent.
func TestParent(t *testing.T) {
	for _, n := range good() {
		row, _ := parts(n)
		got, some := name.Parent(n)
		if len(row) == 0 && (some || got != "") || len(row) > 0 && (!some || got != wire(row[1:]...)) {
			t.Errorf("Parent of %q: %q, %t", n, got, some)
		}
	}
	for n := range bad() {
		if got, some := name.Parent(n); some || got != "" {
			t.Errorf("Parent of %q: %q, %t", n, got, some)
		}
	}
}

// P2.3: Join.
func TestJoin(t *testing.T) {
	ok := wire("a")
	for _, r := range []struct {
		a, b, n api.Name
		e       api.Errno
	}{
		{"", "", "", api.OK},
		{ok, "", ok, api.OK},
		{"", ok, ok, api.OK},
		{wire("WWW"), wire("a", "B"), wire("WWW", "a", "B"), api.OK},
		{wire("a", "b"), wire("c", "d"), wire("a", "b", "c", "d"), api.OK},
		{wire("*"), ok, wire("*", "a"), api.OK},
		{wire(small(252)...), ok, wire(small(254)...), api.OK},
		{wire(great(30)...), wire(strings.Repeat("c", 30)), wire(append(great(30), strings.Repeat("c", 30))...), api.OK},
		{wire(great(30)...), wire(strings.Repeat("c", 31)), "", api.ErrLong},
		{wire(small(253)...), ok, "", api.ErrLong},
		{ok, wire(small(253)...), "", api.ErrLong},
		{wire(small(254)...), ok, "", api.ErrLong},
		{wire(small(254)...), wire(small(254)...), "", api.ErrLong},
		{wire(small(254)...), "", wire(small(254)...), api.OK},
		{"", wire(small(254)...), wire(small(254)...), api.OK},
		{"\x00", ok, "", api.ErrBad},
		{ok, "\x00", "", api.ErrBad},
		{wire(small(256)...), "\x00", "", api.ErrLong},
		{"\x00", wire(small(256)...), "", api.ErrBad},
		{wire(small(254)...), "\x00", "", api.ErrBad},
		{"\x02a", wire(small(254)...), "", api.ErrBad},
		{"\x02a", "\x01", "", api.ErrBad},
		{"\x03a", "\x01b", "", api.ErrBad},
	} {
		if got, e := name.Join(r.a, r.b); got != r.n || e != r.e {
			t.Errorf("Join of %q, %q: %q, %d, not %q, %d", r.a, r.b, got, e, r.n, r.e)
		}
	}
}

// P2.3: Wild.
func TestWild(t *testing.T) {
	for n, want := range map[api.Name]bool{
		wire("*"):           true,
		wire("*", "a"):      true,
		wire("*", "*"):      true,
		wire("*", "*", "a"): true,
		wire(append([]string{"*"}, small(252)...)...): true,
		"":                      false,
		wire("a"):               false,
		wire("a", "*"):          false,
		wire("**", "a"):         false,
		wire("*a"):              false,
		wire("a*"):              false,
		wire("\\*"):             false,
		wire("+"):               false,
		wire("\x01*"):           false,
		"\x01*\x00":             false,
		"\x01*\x02a":            false,
		"*":                     false,
		wire("*", "a") + "\x40": false,
		wire(append([]string{"*"}, small(254)...)...): false,
	} {
		if got := name.Wild(n); got != want {
			t.Errorf("Wild of %q: %t", n, got)
		}
	}
}

// P2.3: Matches.
func TestMatches(t *testing.T) {
	for _, r := range []struct {
		wild, n api.Name
		matches bool
	}{
		{wire("*", "a"), wire("b", "c", "a"), true},
		{wire("*", "a"), wire("b", "a"), true},
		{wire("*", "A"), wire("b", "a"), true},
		{wire("*", "a"), wire("B", "A"), true},
		{wire("*", "a"), wire("*", "a"), true},
		{wire("*", "a"), wire("*", "b", "a"), true},
		{wire("*", "a"), wire("a", "a"), true},
		{wire("*", "a"), wire("a"), false},
		{wire("*", "a"), wire("A"), false},
		{wire("*", "a"), "", false},
		{wire("*", "a"), wire("b"), false},
		{wire("*", "a"), wire("a", "b"), false},
		{wire("*", "a"), wire("ba"), false},
		{wire("*", "a"), wire("b\x01a"), false},
		{wire("*", "b", "a"), wire("c", "a"), false},
		{wire("*", "b", "a"), wire("b", "a"), false},
		{wire("*", "b", "a"), wire("c", "b", "a"), true},
		{wire("*"), wire("a"), true},
		{wire("*"), wire("a", "b", "c"), true},
		{wire("*"), wire("*"), true},
		{wire("*"), "", false},
		{wire("*", "*", "a"), wire("b", "*", "a"), true},
		{wire("*", "*", "a"), wire("c", "b", "a"), false},
		{wire("*", "*", "a"), wire("b", "a"), false},
		{wire("a"), wire("b", "a"), false},
		{wire("a"), wire("a"), false},
		{"", wire("a"), false},
		{wire("b", "a"), wire("b", "a"), false},
		{wire("b", "a"), wire("c", "a"), false},
		{wire("**", "a"), wire("b", "a"), false},
		{wire("*", "a"), wire("b", "*", "a"), true},
		{wire(append([]string{"*"}, small(252)...)...), wire(small(254)...), true},
		{wire(append([]string{"*"}, small(252)...)...), wire(small(252)...), false},
	} {
		if got := name.Matches(r.wild, r.n); got != r.matches {
			t.Errorf("Matches of %q, %q: %t", r.wild, r.n, got)
		}
	}
}

// P2.3: of names that may not be.
func TestOfNamesThatMayNotBe(t *testing.T) {
	for n, e := range bad() {
		if got := name.Fold(n); got != "" {
			t.Errorf("Fold of %q: %q", n, got)
		}
		if name.Same(n, n) || name.Same(n, "") || name.Same("", n) {
			t.Errorf("Same of %q is true", n)
		}
		if name.Under(n, n) || name.Under(n, "") || name.Under("", n) || name.Under(wire("a"), n) {
			t.Errorf("Under of %q is true", n)
		}
		if name.Wild(n) || name.Matches(n, n) || name.Matches(n, wire("a", "a")) || name.Matches(wire("*"), n) {
			t.Errorf("Wild or Matches of %q is true", n)
		}
		if name.Compare(n, n) != 0 || name.Compare(n, "") != 0 || name.Compare("", n) != 0 || name.Compare(n, wire("\x00")) != -1 || name.Compare(wire("\x00"), n) != 1 {
			t.Errorf("Compare of %q isn't as if it were the root", n)
		}
		if got, fault := name.Join(n, wire("a")); got != "" || fault != e {
			t.Errorf("Join of %q: %q, %d", n, got, fault)
		}
	}
}

// P2.4: Read of Text is the name; each name is under each of its parents, and behind them; Join of its labels is it.
func TestWhatFollows(t *testing.T) {
	for _, n := range good() {
		text, e := name.Text(n)
		if e != api.OK {
			t.Errorf("Text of %q: %d", n, e)
		}
		if got, e := name.Read(text); e != api.OK || got != n {
			t.Errorf("Read of %q: %q, %d", text, got, e)
		}
		if got, e := name.Make(name.Labels(n)); e != api.OK || got != n {
			t.Errorf("Make of the labels of %q: %q, %d", n, got, e)
		}
		above, some := name.Parent(n)
		for ; some; above, some = name.Parent(above) {
			if !name.Under(n, above) || name.Under(above, n) {
				t.Errorf("%q isn't under its parent %q alone", n, above)
			}
			if name.Compare(n, above) != 1 || name.Compare(above, n) != -1 {
				t.Errorf("%q isn't behind its parent %q", n, above)
			}
		}
		checkJoined(t, n)
	}
}

func checkJoined(t *testing.T, n api.Name) {
	t.Helper()
	front, back := api.Name(""), api.Name("")
	row := name.Labels(n)
	for i := range row {
		front, _ = name.Join(front, wire(row[i]))
		back, _ = name.Join(wire(row[len(row)-1-i]), back)
	}
	if front != n || back != n {
		t.Errorf("Join of the labels of %q: %q, %q", n, front, back)
	}
}

// Two names at a time: what the calls say of them goes together.
func TestPairs(t *testing.T) {
	for _, a := range good() {
		for _, b := range good() {
			checkPair(t, a, b)
		}
	}
}

// checkPair holds what is said of two names, whether they may be or not, against the tests' own reading of them.
func checkPair(t *testing.T, a, b api.Name) {
	t.Helper()
	rowA, okA := parts(a)
	rowB, okB := parts(b)
	both, order := okA && okB, orderOf(rowA, rowB)
	if name.Compare(a, b) != order {
		t.Fatalf("Compare of %q, %q: %d, not %d", a, b, name.Compare(a, b), order)
	}
	if name.Same(a, b) != (both && order == 0) {
		t.Fatalf("Same of %q, %q", a, b)
	}
	more := len(rowA) - len(rowB)
	under := both && more >= 0 && orderOf(rowA[max(more, 0):], rowB) == 0
	if name.Under(a, b) != under {
		t.Fatalf("Under of %q, %q isn't %t", a, b, under)
	}
	wild := okB && len(rowB) > 0 && rowB[0] == "*"
	matches := okA && wild && more >= 0 && orderOf(rowA[max(more, 0)+1:], rowB[1:]) == 0
	if name.Wild(b) != wild || name.Matches(b, a) != matches {
		t.Fatalf("Wild of %q isn't %t, or Matches of it, %q isn't %t", b, wild, a, matches)
	}
	joined, e := name.Join(a, b)
	switch {
	case !okA:
		if joined != "" || e != name.Check(a) {
			t.Fatalf("Join of %q, %q: %q, %d", a, b, joined, e)
		}
	case !okB:
		if joined != "" || e != name.Check(b) {
			t.Fatalf("Join of %q, %q: %q, %d", a, b, joined, e)
		}
	case len(a)+len(b) > 254:
		if joined != "" || e != api.ErrLong {
			t.Fatalf("Join of %q, %q: %q, %d", a, b, joined, e)
		}
	case joined != a+b || e != api.OK || !name.Under(joined, b):
		t.Fatalf("Join of %q, %q: %q, %d", a, b, joined, e)
	}
}

// orderOf is the canonical order of two rows of labels.
func orderOf(a, b []string) int {
	for i := 1; i <= len(a) && i <= len(b); i++ {
		if c := label.Compare(a[len(a)-i], b[len(b)-i]); c != 0 {
			return c
		}
	}
	switch {
	case len(a) < len(b):
		return -1
	case len(a) > len(b):
		return 1
	}
	return 0
}

// T6: whatever octets are handed in as names, each call ends, and says what the octets are.
func TestWhateverOctets(t *testing.T) {
	const octets = "\x00\x01\x02*Aa\x40\xc0"
	var all []api.Name
	var walk func(n api.Name, more int)
	walk = func(n api.Name, more int) {
		all = append(all, n)
		if more == 0 {
			return
		}
		for i := range len(octets) {
			walk(n+api.Name(octets[i:i+1]), more-1)
		}
	}
	walk("", 4)
	var some []api.Name
	for i, n := range all {
		row, ok := parts(n)
		if got := name.Check(n); got == api.OK != ok || got != api.OK && got != api.ErrBad {
			t.Fatalf("Check of %q: %d", n, got)
		}
		if got := name.Labels(n); !slices.Equal(got, row) {
			t.Fatalf("Labels of %q: %q", n, got)
		}
		if text, e := name.Text(n); e != name.Check(n) || (text == "") != (e != api.OK) {
			t.Fatalf("Text of %q: %q, %d", n, text, e)
		}
		if ok || i%40 == 0 { // of those that may not be, a few are held against all
			some = append(some, n)
		}
	}
	for _, a := range some {
		for _, b := range some {
			checkPair(t, a, b)
		}
	}
}

// T6: whatever text is handed in, Read ends, and what it answers is the same again, may be, and is read again.
func TestWhateverText(t *testing.T) {
	const octets = "a.\\12 *\xff"
	var walk func(s string, more int)
	walk = func(s string, more int) {
		checkRead(t, s)
		if more == 0 {
			return
		}
		for i := range len(octets) {
			walk(s+octets[i:i+1], more-1)
		}
	}
	walk("", 5)
}

// checkRead holds what Read answers of s against label by label's own reading.
func checkRead(t *testing.T, s string) {
	t.Helper()
	n, e := name.Read(s)
	if n2, e2 := name.Read(s); n2 != n || e2 != e {
		t.Fatalf("Read of %q answers something else the second time", s)
	}
	want, fault := api.Name(""), api.OK
	for at := 0; s != "." && (at == 0 || at < len(s)); {
		l, end, e := label.Read(s, at)
		if e != api.OK {
			want, fault = "", e
			break
		}
		want += wire(l)
		at = end + 1
	}
	if n != want || e != fault {
		t.Fatalf("Read of %q: %q, %d, not %q, %d", s, n, e, want, fault)
	}
	if e != api.OK {
		return
	}
	text, e := name.Text(n)
	if again, e2 := name.Read(text); e != api.OK || e2 != api.OK || again != n {
		t.Fatalf("Read of %q: %q, whose text %q is read as %q", s, n, text, again)
	}
}

// The chapter's examples.
func TestExamples(t *testing.T) {
	for _, s := range []string{"www.a.", "www.a"} {
		if n, e := name.Read(s); e != api.OK || n != "\x03www\x01a" {
			t.Errorf("Read of %s: %q, %d", s, n, e)
		}
	}
	if !name.Matches("\x01*\x01a", "\x01b\x01c\x01a") {
		t.Error("*.a doesn't match b.c.a")
	}
	if name.Matches("\x01*\x01a", "\x01a") {
		t.Error("*.a matches a")
	}
}
