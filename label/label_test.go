package label_test

import (
	"math"
	"strconv"
	"strings"
	"testing"

	"nameplate/api"
	"nameplate/label"
)

// smalls is the alphabet as it is folded; the tests fold by it, not by arithmetic.
const (
	smalls   = "abcdefghijklmnopqrstuvwxyz"
	capitals = "ABCDEFGHIJKLMNOPQRSTUVWXYZ"
)

// fromOctet is the string of one octet.
func fromOctet(c int) string { return string([]byte{byte(c)}) }

func foldedOctet(c int) int {
	if at := strings.IndexByte(capitals, byte(c)); at >= 0 {
		return int(smalls[at])
	}
	return c
}

// threeDigits is n as a text of three digits at least.
func threeDigits(n int) string {
	s := strconv.Itoa(n)
	for len(s) < 3 {
		s = "0" + s
	}
	return s
}

// textOf is the text that the chapter gives the octet c.
func textOf(c int) string {
	switch {
	case c == 46:
		return "\\."
	case c == 92:
		return "\\\\"
	case c < 33, c > 126:
		return "\\" + threeDigits(c)
	}
	return fromOctet(c)
}

// odd is a row of labels of all kinds, some of which may not be.
func odd() []string {
	l := []string{"", "a", "A", "ab", "AB", "aB", "a-b", "*", "_tcp", "a.b", "a\\b", "\\000", "é", "É", "a b"}
	for _, n := range []int{62, 63, 64, 65, 300} {
		l = append(l, strings.Repeat("a", n), strings.Repeat("A", n), strings.Repeat("\x00", n), strings.Repeat(".", n))
	}
	for c := range 256 {
		l = append(l, fromOctet(c), "x"+fromOctet(c), fromOctet(c)+"x")
	}
	return l
}

// P1.1: Check.
func TestCheckTellsHowMany(t *testing.T) {
	for n := range 200 {
		want := api.OK
		switch {
		case n == 0:
			want = api.ErrArg
		case n > 63:
			want = api.ErrLong
		}
		for _, c := range []string{"a", "Z", ".", "\\", " ", "\x00", "\xff"} {
			if e := label.Check(strings.Repeat(c, n)); e != want {
				t.Errorf("Check of %d times %q: %d, not %d", n, c, e, want)
			}
		}
	}
	if e := label.Check(strings.Repeat("a", 1<<16)); e != api.ErrLong {
		t.Error("Check of 65536 octets:", e)
	}
}

func TestCheckTakesEachOctet(t *testing.T) {
	for c := range 256 {
		if e := label.Check(fromOctet(c)); e != api.OK {
			t.Errorf("Check of the octet %d: %d", c, e)
		}
	}
}

// P1.1: Fold.
func TestFoldEachOctet(t *testing.T) {
	for c := range 256 {
		want := fromOctet(foldedOctet(c))
		if got := label.Fold(fromOctet(c)); got != want {
			t.Errorf("Fold of the octet %d: %q", c, got)
		}
		if got := label.Fold("Q" + fromOctet(c) + "q"); got != "q"+want+"q" {
			t.Errorf("Fold of Q, the octet %d, q: %q", c, got)
		}
	}
}

func TestFoldWhateverItIs(t *testing.T) {
	for l, want := range map[string]string{
		"":                         "",
		"WwW":                      "www",
		"@AZ[`az{":                 "@az[`az{",
		"ÀÉ \u212a":                "ÀÉ \u212a",
		"\xc3\x89\xff":             "\xc3\x89\xff",
		"A.B\\065":                 "a.b\\065",
		strings.Repeat("A", 63):    strings.Repeat("a", 63),
		strings.Repeat("Ab", 1000): strings.Repeat("ab", 1000),
	} {
		if got := label.Fold(l); got != want {
			t.Errorf("Fold of %q: %q", l, got)
		}
	}
}

// P1.1: Compare and Same.
func TestCompareInOrder(t *testing.T) {
	// Each is ahead of those behind it; in one row all are the same.
	rows := [][]string{
		{""},
		{"\x00"},
		{"\x00\x00"},
		{" "},
		{"."},
		{"0"},
		{"9"},
		{"@"},
		{"["},
		{"\\"},
		{"_"},
		{"`"},
		{"a", "A"},
		{"a\x00", "A\x00"},
		{"aB", "ab", "AB", "Ab"},
		{"ab\xff", "AB\xff"},
		{"b", "B"},
		{"z", "Z"},
		{"zz", "ZZ"},
		{strings.Repeat("z", 63), strings.Repeat("Z", 63)},
		{strings.Repeat("z", 64), strings.Repeat("Z", 64)},
		{strings.Repeat("z", 200), strings.Repeat("Z", 200)},
		{"{"},
		{"\x7f"},
		{"\x80"},
		{"\xc3\x89"},
		{"\xc3\xa9"},
		{"\xff"},
	}
	for i, row := range rows {
		for k, other := range rows {
			want := 0
			if i < k {
				want = -1
			} else if i > k {
				want = 1
			}
			checkAll(t, row, other, want)
		}
	}
}

// checkAll holds each of one row against each of the other.
func checkAll(t *testing.T, row, other []string, want int) {
	t.Helper()
	for _, a := range row {
		for _, b := range other {
			if got := label.Compare(a, b); got != want {
				t.Errorf("Compare of %q, %q: %d, not %d", a, b, got, want)
			}
			if got := label.Same(a, b); got != (want == 0) {
				t.Errorf("Same of %q, %q: %v", a, b, got)
			}
		}
	}
}

func TestCompareEachPairOfOctets(t *testing.T) {
	for a := range 256 {
		for b := range 256 {
			want := 0
			if foldedOctet(a) < foldedOctet(b) {
				want = -1
			} else if foldedOctet(a) > foldedOctet(b) {
				want = 1
			}
			checkAll(t, []string{fromOctet(a)}, []string{fromOctet(b)}, want)
			checkAll(t, []string{"k" + fromOctet(a)}, []string{"K" + fromOctet(b)}, want)
		}
	}
}

func TestCompareByTheFirstOctetThatDiffers(t *testing.T) {
	checkAll(t, []string{"ab", "AB"}, []string{"aCa", "ACA"}, -1)
	checkAll(t, []string{"b"}, []string{"aaaa"}, 1)
	checkAll(t, []string{"ba"}, []string{"AB", "abc"}, 1)
	checkAll(t, []string{"a1z"}, []string{"A2A"}, -1)
}

// P1.3: Same is Compare's 0; and Compare is the other way round of itself.
func TestSameIsComparesNought(t *testing.T) {
	l := odd()
	for _, a := range l {
		for _, b := range l {
			there, back := label.Compare(a, b), label.Compare(b, a)
			if there < -1 || there > 1 || there != -back {
				t.Fatalf("Compare of %q, %q: %d, and back: %d", a, b, there, back)
			}
			if label.Same(a, b) != (there == 0) {
				t.Fatalf("Same of %q, %q isn't whether Compare is 0", a, b)
			}
			if (there == 0) != (label.Fold(a) == label.Fold(b)) {
				t.Fatalf("Compare of %q, %q isn't 0 where they are the same, folded", a, b)
			}
		}
	}
}

// P1.2: Text.
func TestTextOfEachOctet(t *testing.T) {
	for c := range 256 {
		if got, e := label.Text(fromOctet(c)); e != api.OK || got != textOf(c) {
			t.Errorf("Text of the octet %d: %q, %d", c, got, e)
		}
		if got, e := label.Text("1" + fromOctet(c) + "2"); e != api.OK || got != "1"+textOf(c)+"2" {
			t.Errorf("Text of 1, the octet %d, 2: %q, %d", c, got, e)
		}
	}
}

func TestTexts(t *testing.T) {
	for l, want := range map[string]string{
		"www":                      "www",
		"WwW":                      "WwW",
		"a.b\x00":                  "a\\.b\\000",
		"\\.":                      "\\\\\\.",
		"\x1f !":                   "\\031\\032!",
		"~\x7f\x80\xff":            "~\\127\\128\\255",
		"é":                        "\\195\\169",
		"\\065":                    "\\\\065",
		"\x01" + "23":              "\\00123",
		"\"$;@()":                  "\"$;@()",
		strings.Repeat("a", 63):    strings.Repeat("a", 63),
		strings.Repeat("\x00", 63): strings.Repeat("\\000", 63),
		strings.Repeat("\\", 63):   strings.Repeat("\\\\", 63),
	} {
		if got, e := label.Text(l); e != api.OK || got != want {
			t.Errorf("Text of %q: %q, %d", l, got, e)
		}
	}
}

func TestTextHasChecksErrors(t *testing.T) {
	for _, l := range odd() {
		text, e := label.Text(l)
		if e != label.Check(l) || (e != api.OK) != (text == "") {
			t.Errorf("Text of %q: %q, %d", l, text, e)
		}
	}
	for n, want := range map[int]api.Errno{0: api.ErrArg, 63: api.OK, 64: api.ErrLong, 1000: api.ErrLong} {
		for _, c := range []string{"a", ".", "\x00"} {
			if _, e := label.Text(strings.Repeat(c, n)); e != want {
				t.Errorf("Text of %d times %q: %d", n, c, e)
			}
		}
	}
}

// reading is a call of Read and what it answers.
type reading struct {
	s   string
	at  int
	l   string
	end int
	e   api.Errno
}

func checkReadings(t *testing.T, rows []reading) {
	t.Helper()
	for _, r := range rows {
		if l, end, e := label.Read(r.s, r.at); l != r.l || end != r.end || e != r.e {
			t.Errorf("Read of %q at %d: %q, %d, %d, not %q, %d, %d", r.s, r.at, l, end, e, r.l, r.end, r.e)
		}
	}
}

// P1.2: Read.
func TestReads(t *testing.T) {
	checkReadings(t, []reading{
		{"a\\.b.c", 0, "a.b", 4, api.OK},
		{"a..b", 2, "", 0, api.ErrArg},
		{"www", 0, "www", 3, api.OK},
		{"WwW.a", 0, "WwW", 3, api.OK},
		{"www.a", 1, "ww", 3, api.OK},
		{"www.a", 4, "a", 5, api.OK},
		{"www.a.", 4, "a", 5, api.OK},
		{"a\\.b\\065.c", 0, "a.bA", 8, api.OK},
		{"a\\.b", 2, "", 0, api.ErrArg},
		{"a\\.b", 3, "b", 4, api.OK},
		{"\\\\.a", 0, "\\", 2, api.OK},
		{"\\\\\\..a", 0, "\\.", 4, api.OK},
		{"\\065", 1, "065", 4, api.OK},
		{"\\0000", 0, "\x000", 5, api.OK},
		{"\\000", 0, "\x00", 4, api.OK},
		{"\\046.", 0, ".", 4, api.OK},
		{"\\092a", 0, "\\a", 5, api.OK},
		{"\\255", 0, "\xff", 4, api.OK},
		{"\\a\\B", 0, "aB", 4, api.OK},
		{"\\ \\\x00\\\xff", 0, " \x00\xff", 6, api.OK},
		{"!~", 0, "!~", 2, api.OK},
		{"a. ", 0, "a", 1, api.OK},
		{" a", 1, "a", 2, api.OK},
		{"*", 0, "*", 1, api.OK},
	})
}

func TestReadOutOfPlace(t *testing.T) {
	for _, s := range []string{"", "a", "a.b", ".", "\\", " "} {
		for _, at := range []int{math.MinInt, -256, -2, -1, len(s) + 1, len(s) + 2, len(s) + 256, math.MaxInt} {
			checkReadings(t, []reading{{s, at, "", 0, api.ErrArg}})
		}
	}
}

func TestReadOfNothing(t *testing.T) {
	checkReadings(t, []reading{
		{"", 0, "", 0, api.ErrArg},
		{"a", 1, "", 0, api.ErrArg},
		{"a.", 2, "", 0, api.ErrArg},
		{"a.", 1, "", 0, api.ErrArg},
		{".", 0, "", 0, api.ErrArg},
		{".a", 0, "", 0, api.ErrArg},
		{". ", 0, "", 0, api.ErrArg},
	})
}

func TestReadEachOctet(t *testing.T) {
	for c := range 256 {
		octet := fromOctet(c)
		bare := reading{"a" + octet + "b", 0, "a" + octet + "b", 3, api.OK}
		switch {
		case c == 46:
			bare = reading{bare.s, 0, "a", 1, api.OK}
		case c == 92:
			bare = reading{bare.s, 0, "ab", 3, api.OK}
		case c < 33, c > 126:
			bare = reading{bare.s, 0, "", 0, api.ErrText}
		}
		behind := reading{"\\" + octet + "a", 0, octet + "a", 3, api.OK}
		last := reading{"a\\" + octet, 0, "a" + octet, 3, api.OK}
		if strings.Contains("0123456789", octet) {
			behind = reading{behind.s, 0, "", 0, api.ErrText}
			last = reading{last.s, 0, "", 0, api.ErrText}
		}
		checkReadings(t, []reading{bare, behind, last})
	}
}

func TestReadEachNumber(t *testing.T) {
	for n := range 1000 {
		s := "\\" + threeDigits(n)
		if n > 255 {
			checkReadings(t, []reading{{s, 0, "", 0, api.ErrText}, {"a" + s + "b.c", 0, "", 0, api.ErrText}})
			continue
		}
		octet := fromOctet(n)
		checkReadings(t, []reading{
			{s, 0, octet, 4, api.OK},
			{s + ".c", 0, octet, 4, api.OK},
			{"a" + s + "7", 0, "a" + octet + "7", 6, api.OK},
		})
	}
}

func TestReadWrongTexts(t *testing.T) {
	for _, s := range []string{
		"\\", "a\\", "\\\\\\", "\\065\\",
		"\\0", "\\9", "\\12", "\\25", "a\\0", "a\\00",
		"\\1a", "\\12a", "\\1.2", "\\12.", "\\1\\2", "\\12\\", "\\12\\3", "\\0a0", "\\00:", "\\00/", "\\0:0", "\\0/0", "\\00 ", "\\00\xff",
		"\\256", "\\260", "\\300", "\\512", "\\999", "a\\256.b", "\\2560",
		" ", "a b", "\t", "\n", "\x00", "\x1f", "\x7f", "\x80", "\xff", "é", "a\x00", "a\xff.b",
	} {
		checkReadings(t, []reading{{s, 0, "", 0, api.ErrText}, {"w." + s, 2, "", 0, api.ErrText}})
	}
}

func TestReadTooMany(t *testing.T) {
	for _, one := range []struct{ text, octet string }{{"a", "a"}, {"\\.", "."}, {"\\000", "\x00"}, {"\\255", "\xff"}, {"\\\\", "\\"}} {
		for n := 1; n < 130; n++ {
			s, l := strings.Repeat(one.text, n), strings.Repeat(one.octet, n)
			want := reading{s, 0, l, len(s), api.OK}
			if n > 63 {
				want = reading{s, 0, "", 0, api.ErrLong}
			}
			behind := want
			behind.s += "."
			checkReadings(t, []reading{want, behind})
		}
	}
}

// The error that is met first counts; where one octet is both wrong and the 64th, its text is.
func TestReadTheFirstError(t *testing.T) {
	full := strings.Repeat("a", 63)
	for _, wrong := range []string{"\\", "\\1", "\\12", "\\12a", "\\256", " ", "\x7f", "\xff"} {
		checkReadings(t, []reading{
			{"\xff" + full + wrong, 0, "", 0, api.ErrText},
			{full[1:] + wrong, 0, "", 0, api.ErrText},
			{full + wrong, 0, "", 0, api.ErrText},
			{full + "a" + wrong, 0, "", 0, api.ErrLong},
			{full + "\\255" + wrong, 0, "", 0, api.ErrLong},
			{full + "\\." + wrong, 0, "", 0, api.ErrLong},
			{full + full + wrong, 0, "", 0, api.ErrLong},
			{full + "." + wrong, 0, full, 63, api.OK},
			{"." + wrong, 0, "", 0, api.ErrArg},
			{wrong, -1, "", 0, api.ErrArg},
			{full + full + wrong, 1000, "", 0, api.ErrArg},
		})
	}
}

// P1.3: Read of Text is the label, up to the end.
func TestReadOfText(t *testing.T) {
	for _, l := range odd() {
		if label.Check(l) == api.OK {
			checkThereAndBack(t, l)
		}
	}
	for a := range 256 {
		for b := range 256 {
			checkThereAndBack(t, fromOctet(a)+fromOctet(b))
		}
		checkThereAndBack(t, strings.Repeat(fromOctet(a), 63))
		checkThereAndBack(t, fromOctet(a)+"065")
	}
}

func checkThereAndBack(t *testing.T, l string) {
	t.Helper()
	text, e := label.Text(l)
	if e != api.OK {
		t.Fatalf("Text of %q: %d", l, e)
	}
	checkReadings(t, []reading{
		{text, 0, l, len(text), api.OK},
		{text + ".b", 0, l, len(text), api.OK},
		{"a." + text + ".", 2, l, 2 + len(text), api.OK},
	})
}

// T6: whatever is handed in, each call ends, nothing goes round, and the same is answered again.
func TestWhateverIsHandedIn(t *testing.T) {
	const parts = "a.\\129 \xff"
	var walk func(s string, more int)
	walk = func(s string, more int) {
		for at := -1; at <= len(s)+1; at++ {
			checkRead(t, s, at)
		}
		if more == 0 {
			return
		}
		for i := range len(parts) {
			walk(s+parts[i:i+1], more-1)
		}
	}
	walk("", 5)
}

// checkRead holds what Read answers against what the chapter says of any answer.
func checkRead(t *testing.T, s string, at int) {
	t.Helper()
	l, end, e := label.Read(s, at)
	if l2, end2, e2 := label.Read(s, at); l2 != l || end2 != end || e2 != e {
		t.Fatalf("Read of %q at %d answers something else the second time", s, at)
	}
	if e != api.OK {
		if l != "" || end != 0 {
			t.Fatalf("Read of %q at %d: %q, %d beside %d", s, at, l, end, e)
		}
		if e != api.ErrArg && e != api.ErrLong && e != api.ErrText {
			t.Fatalf("Read of %q at %d: %d", s, at, e)
		}
		return
	}
	if label.Check(l) != api.OK || end <= at || end < len(s) && s[end] != '.' {
		t.Fatalf("Read of %q at %d: %q, %d", s, at, l, end)
	}
	text, _ := label.Text(l)
	if again, _, e := label.Read(text, 0); e != api.OK || again != l {
		t.Fatalf("Read of %q at %d: %q, whose text %q is read as %q", s, at, l, text, again)
	}
}
