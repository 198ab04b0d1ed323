package octets_test

import (
	"math"
	"slices"
	"strconv"
	"strings"
	"testing"

	"nameplate/api"
	"nameplate/octets"
)

// far is numbers far from all that any row here has.
func far() []int {
	return []int{math.MinInt, math.MinInt + 1, -1 << 32, -256, -5, -4, 1<<32 + 1, 1 << 40, math.MaxInt - 1, math.MaxInt}
}

// greatest is the greatest number of n octets, by the tests' own reckoning: each octet is worth 256.
func greatest(n int) uint64 {
	all := uint64(1)
	for range n {
		all *= 256
	}
	return all - 1
}

// fromOctets is the row of octets of these numbers.
func fromOctets(numbers ...int) string {
	var row []byte
	for _, c := range numbers {
		row = append(row, byte(c))
	}
	return string(row)
}

// numberOf is the number that a row of octets is, by the tests' own reckoning.
func numberOf(row string) uint32 {
	v, worth := uint64(0), uint64(1)
	for i := len(row) - 1; i >= 0; i-- {
		v += worth * uint64(row[i])
		worth *= 256
	}
	return uint32(v)
}

// written is v as n octets, by the tests' own reckoning.
func written(v uint32, n int) string {
	row := make([]byte, n)
	rest := uint64(v)
	for i := n - 1; i >= 0; i-- {
		row[i] = byte(rest % 256)
		rest /= 256
	}
	return string(row)
}

// numbers is a row of numbers at the edges of each width.
func numbers() []uint32 {
	return []uint32{
		0, 1, 2, 127, 128, 254, 255,
		256, 257, 258, 32767, 32768, 65534, 65535,
		65536, 65537, 66051, 1<<23 - 1, 1 << 23, 1<<24 - 2, 1<<24 - 1,
		1 << 24, 1<<24 + 1, 16909060, 1<<31 - 1, 1 << 31, math.MaxUint32 - 1, math.MaxUint32,
	}
}

// checkAt holds where a reader is against where it should be.
func checkAt(t *testing.T, what string, r *octets.Reader, at, left int) {
	t.Helper()
	if r.At() != at || r.Left() != left {
		t.Errorf("%s: at %d with %d left, not at %d with %d", what, r.At(), r.Left(), at, left)
	}
}

// checkStands holds what a writer has against what it should have.
func checkStands(t *testing.T, what string, w *octets.Writer, text string, e api.Errno) {
	t.Helper()
	if w.Text() != text || w.Len() != len(text) || w.Err() != e {
		t.Errorf("%s: %.20q, %d, %d, not %.20q, %d, %d", what, w.Text(), w.Len(), w.Err(), text, len(text), e)
	}
}

func seek(t *testing.T, r *octets.Reader, at int) {
	t.Helper()
	if e := r.Seek(at); e != api.OK {
		t.Fatalf("Seek of %d: %d", at, e)
	}
}

func put(t *testing.T, w *octets.Writer, s string) {
	t.Helper()
	if e := w.Put(s); e != api.OK {
		t.Fatalf("Put of %.20q: %d", s, e)
	}
}

// The chapter's examples.
func TestExamples(t *testing.T) {
	w := octets.NewWriter(2)
	if e := w.Number(258, 2); e != api.OK || w.Text() != "\x01\x02" {
		t.Errorf("Number(258, 2): %d; Text: %q", e, w.Text())
	}
	w = octets.NewWriter(1)
	if e := w.Number(258, 2); e != api.ErrLong {
		t.Errorf("Number(258, 2) in one octet: %d", e)
	}
	if e := w.Number(1, 1); e != api.ErrLong {
		t.Errorf("Number(1, 1) behind it: %d", e)
	}
	checkStands(t, "NewWriter(1)", w, "", api.ErrLong)
}

// P3.1: NewReader, At, Left.
func TestReaderBeginsAtTheBeginning(t *testing.T) {
	for _, s := range []string{"", "a", "\x00", "\xff\x00", "abcdef", "é", strings.Repeat("\x01", 70000)} {
		r := octets.NewReader(s)
		if r == nil {
			t.Fatalf("NewReader of %.20q is nil", s)
		}
		checkAt(t, "NewReader", r, 0, len(s))
	}
}

// P3.1: Number.
func TestNumbersAreRead(t *testing.T) {
	for _, c := range []struct {
		s    string
		n    int
		want uint32
	}{
		{"\x00", 1, 0}, {"\x01", 1, 1}, {"\xff", 1, 255},
		{"\x01\x02", 2, 258}, {"\x02\x01", 2, 513}, {"\x00\x00", 2, 0}, {"\x00\x80", 2, 128}, {"\x80\x00", 2, 32768}, {"\xff\xff", 2, 65535},
		{"\x01\x02\x03", 3, 66051}, {"\x03\x02\x01", 3, 197121}, {"\x00\x00\x00", 3, 0}, {"\xff\xff\xff", 3, 16777215},
		{"\x01\x02\x03\x04", 4, 16909060}, {"\x04\x03\x02\x01", 4, 67305985}, {"\x00\x00\x00\x00", 4, 0}, {"\x80\x00\x00\x00", 4, 2147483648}, {"\xff\xff\xff\xff", 4, 4294967295},
	} {
		r := octets.NewReader(c.s)
		if v, e := r.Number(c.n); v != c.want || e != api.OK {
			t.Errorf("Number(%d) of %q: %d, %d, not %d", c.n, c.s, v, e, c.want)
		}
		checkAt(t, "behind all", r, c.n, 0)
		r = octets.NewReader("\xee" + c.s + "\xdd")
		seek(t, r, 1)
		if v, e := r.Number(c.n); v != c.want || e != api.OK {
			t.Errorf("Number(%d) of %q between others: %d, %d, not %d", c.n, c.s, v, e, c.want)
		}
		checkAt(t, "between others", r, 1+c.n, 1)
	}
}

func TestNumberOfEachOctet(t *testing.T) {
	all := ""
	for c := range 256 {
		all += fromOctets(c)
	}
	one, two := octets.NewReader(all), octets.NewReader(all)
	for c := range 256 {
		if v, e := one.Number(1); v != uint32(c) || e != api.OK {
			t.Errorf("Number(1) of the octet %d: %d, %d", c, v, e)
		}
		if c%2 == 1 {
			continue
		}
		if v, e := two.Number(2); v != uint32(c*256+c+1) || e != api.OK {
			t.Errorf("Number(2) of the octets %d, %d: %d, %d", c, c+1, v, e)
		}
	}
	checkAt(t, "one by one", one, 256, 0)
	checkAt(t, "two by two", two, 256, 0)
}

func TestNumberOfSoManyOctetsIsNone(t *testing.T) {
	for _, s := range []string{"", "a", "abcd", "abcde", "abcdefgh"} {
		for at := range len(s) + 1 {
			r := octets.NewReader(s)
			seek(t, r, at)
			for _, n := range append(far(), -3, -2, -1, 0, 5, 6, 8, 32, 256, 260) {
				if v, e := r.Number(n); v != 0 || e != api.ErrArg {
					t.Errorf("Number(%d) of %q at %d: %d, %d", n, s, at, v, e)
				}
				checkAt(t, "Number of so many is none", r, at, len(s)-at)
			}
		}
	}
}

func TestNumberOfTooFewReadsNothing(t *testing.T) {
	const s = "\x01\x02\x03\x04\x05\x06"
	for n := 1; n <= 4; n++ {
		for left := range n {
			r := octets.NewReader(s)
			at := len(s) - left
			seek(t, r, at)
			for range 2 {
				if v, e := r.Number(n); v != 0 || e != api.ErrMore {
					t.Errorf("Number(%d) of %d octets: %d, %d", n, left, v, e)
				}
				checkAt(t, "Number of too few", r, at, left)
			}
			if left == 0 {
				continue
			}
			if v, e := r.Number(left); v != numberOf(s[at:]) || e != api.OK {
				t.Errorf("Number(%d) of %d octets, behind ErrMore: %d, %d", left, left, v, e)
			}
			checkAt(t, "Number of all that are left", r, len(s), 0)
		}
	}
}

// P3.1: Take.
func TestTakes(t *testing.T) {
	const s = "ab\x00\xffé.Z"
	for at := range len(s) + 1 {
		for n := range len(s) - at + 1 {
			r := octets.NewReader(s)
			seek(t, r, at)
			if got, e := r.Take(n); got != s[at:at+n] || e != api.OK {
				t.Errorf("Take(%d) at %d: %q, %d", n, at, got, e)
			}
			checkAt(t, "Take", r, at+n, len(s)-at-n)
		}
	}
}

func TestTakeOfNothing(t *testing.T) {
	for _, s := range []string{"", "a", "abc"} {
		for at := range len(s) + 1 {
			r := octets.NewReader(s)
			seek(t, r, at)
			for range 2 {
				if got, e := r.Take(0); got != "" || e != api.OK {
					t.Errorf("Take(0) of %q at %d: %q, %d", s, at, got, e)
				}
				checkAt(t, "Take(0)", r, at, len(s)-at)
			}
		}
	}
}

func TestWrongTakesReadNothing(t *testing.T) {
	for _, s := range []string{"", "a", "abcdef"} {
		for at := range len(s) + 1 {
			r := octets.NewReader(s)
			seek(t, r, at)
			left := len(s) - at
			for _, n := range append(far(), -2, -1, left+1, left+2, left+256) {
				want := api.ErrMore
				if n < 0 {
					want = api.ErrArg
				}
				if got, e := r.Take(n); got != "" || e != want {
					t.Errorf("Take(%d) of %q at %d: %q, %d, not %d", n, s, at, got, e, want)
				}
				checkAt(t, "a wrong Take", r, at, left)
			}
			if got, e := r.Take(left); got != s[at:] || e != api.OK {
				t.Errorf("Take of all of %q from %d on, behind errors: %q, %d", s, at, got, e)
			}
		}
	}
}

// P3.1: Seek.
func TestSeeksGoOnThere(t *testing.T) {
	const s = "\x00\x01\x02\x03\x04\x05"
	r := octets.NewReader(s)
	for from := range len(s) + 1 {
		for at := range len(s) + 1 {
			seek(t, r, from)
			seek(t, r, at)
			checkAt(t, "Seek", r, at, len(s)-at)
			if at == len(s) {
				continue
			}
			if v, e := r.Number(1); v != uint32(at) || e != api.OK {
				t.Errorf("Number(1) behind Seek(%d): %d, %d", at, v, e)
			}
		}
	}
}

func TestSeekOutOfPlaceStays(t *testing.T) {
	for _, s := range []string{"", "a", "abcdef"} {
		for at := range len(s) + 1 {
			r := octets.NewReader(s)
			seek(t, r, at)
			for _, to := range append(far(), -3, -2, -1, len(s)+1, len(s)+2, len(s)+256) {
				if e := r.Seek(to); e != api.ErrArg {
					t.Errorf("Seek(%d) of %q: %d", to, s, e)
				}
				checkAt(t, "Seek out of place", r, at, len(s)-at)
			}
			if got, e := r.Take(len(s) - at); got != s[at:] || e != api.OK {
				t.Errorf("Take behind Seeks out of place: %q, %d", got, e)
			}
		}
	}
}

// readings is a reader beside what the chapter says of it.
type readings struct {
	r  *octets.Reader
	s  string
	at int
}

// number, take and seek do one call on both, and tell whether they are of one mind.
func (m *readings) number(n int) bool {
	v, e := m.r.Number(n)
	switch {
	case n < 1 || n > 4:
		return v == 0 && e == api.ErrArg
	case m.at+n > len(m.s):
		return v == 0 && e == api.ErrMore
	}
	m.at += n
	return v == numberOf(m.s[m.at-n:m.at]) && e == api.OK
}

func (m *readings) take(n int) bool {
	got, e := m.r.Take(n)
	switch {
	case n < 0:
		return got == "" && e == api.ErrArg
	case m.at+n > len(m.s):
		return got == "" && e == api.ErrMore
	}
	m.at += n
	return got == m.s[m.at-n:m.at] && e == api.OK
}

func (m *readings) seek(at int) bool {
	e := m.r.Seek(at)
	if at < 0 || at > len(m.s) {
		return e == api.ErrArg
	}
	m.at = at
	return e == api.OK
}

func (m *readings) where() bool { return m.r.At() == m.at && m.r.Left() == len(m.s)-m.at }

// P3.1: each row of four calls, of numbers from -1 to 5 each.
func TestReaderInEachRowOfCalls(t *testing.T) {
	const from, kinds, each, calls = -1, 3, 7, 4
	rows := 1
	for range calls {
		rows *= kinds * each
	}
	for row := range rows {
		m := readings{octets.NewReader("\x81\x02\xf3"), "\x81\x02\xf3", 0}
		rest, told := row, ""
		for range calls {
			n := rest/kinds%each + from
			call := []func(int) bool{m.number, m.take, m.seek}[rest%kinds]
			told += " " + []string{"Number", "Take", "Seek"}[rest%kinds] + " " + strconv.Itoa(n)
			rest /= kinds * each
			if !call(n) || !m.where() {
				t.Fatalf("the last of%s is answered otherwise", told)
			}
		}
	}
}

// Readers of the same octets don't know of each other.
func TestReadersStandAlone(t *testing.T) {
	a, b := octets.NewReader("abc"), octets.NewReader("abc")
	seek(t, a, 2)
	checkAt(t, "the other one", b, 0, 3)
	if got, _ := b.Take(1); got != "a" {
		t.Errorf("the other one takes %q", got)
	}
	checkAt(t, "the first one", a, 2, 1)
}

// P3.2: NewWriter.
func TestWriterBeginsEmpty(t *testing.T) {
	for _, most := range append(far(), -1, 0, 1, 2, 65535) {
		w := octets.NewWriter(most)
		if w == nil {
			t.Fatalf("NewWriter(%d) is nil", most)
		}
		checkStands(t, "NewWriter", w, "", api.OK)
	}
}

func TestWriterOfNoRoom(t *testing.T) {
	for _, most := range []int{0, -1, -2, -4, math.MinInt} {
		for n := 1; n <= 4; n++ {
			w := octets.NewWriter(most)
			put(t, w, "")
			checkStands(t, "nothing in no room", w, "", api.OK)
			if e := w.Number(0, n); e != api.ErrLong {
				t.Errorf("Number(0, %d) in room of %d: %d", n, most, e)
			}
			checkStands(t, "Number in no room", w, "", api.ErrLong)
		}
		w := octets.NewWriter(most)
		if e := w.Put("a"); e != api.ErrLong {
			t.Errorf("Put of a in room of %d: %d", most, e)
		}
		checkStands(t, "Put in no room", w, "", api.ErrLong)
	}
}

func TestWriterOfMuchRoom(t *testing.T) {
	for _, most := range []int{math.MaxInt, math.MaxInt - 1, 1 << 40, 1 << 32} {
		w := octets.NewWriter(most)
		all := ""
		for range 3 {
			put(t, w, strings.Repeat("a", 70000))
			if e := w.Number(0x62636465, 4); e != api.OK {
				t.Errorf("Number in room of %d: %d", most, e)
			}
			all += strings.Repeat("a", 70000) + "bcde"
		}
		checkStands(t, "much room", w, all, api.OK)
	}
}

// P3.2: Number.
func TestNumbersAreWritten(t *testing.T) {
	for _, c := range []struct {
		v    uint32
		n    int
		want string
	}{
		{0, 1, "\x00"}, {1, 1, "\x01"}, {255, 1, "\xff"},
		{0, 2, "\x00\x00"}, {1, 2, "\x00\x01"}, {255, 2, "\x00\xff"}, {256, 2, "\x01\x00"}, {258, 2, "\x01\x02"}, {65535, 2, "\xff\xff"},
		{0, 3, "\x00\x00\x00"}, {1, 3, "\x00\x00\x01"}, {65536, 3, "\x01\x00\x00"}, {66051, 3, "\x01\x02\x03"}, {16777215, 3, "\xff\xff\xff"},
		{0, 4, "\x00\x00\x00\x00"}, {1, 4, "\x00\x00\x00\x01"}, {16777216, 4, "\x01\x00\x00\x00"}, {16909060, 4, "\x01\x02\x03\x04"}, {2147483648, 4, "\x80\x00\x00\x00"}, {4294967295, 4, "\xff\xff\xff\xff"},
	} {
		w := octets.NewWriter(c.n)
		if e := w.Number(c.v, c.n); e != api.OK {
			t.Errorf("Number(%d, %d): %d", c.v, c.n, e)
		}
		checkStands(t, "Number", w, c.want, api.OK)
		w = octets.NewWriter(64)
		put(t, w, "ab")
		if e := w.Number(c.v, c.n); e != api.OK {
			t.Errorf("Number(%d, %d) behind ab: %d", c.v, c.n, e)
		}
		put(t, w, "c")
		checkStands(t, "Number between others", w, "ab"+c.want+"c", api.OK)
	}
}

// A number that may not be is no error of the writer: it goes on.
func TestNumberThatMayNotBe(t *testing.T) {
	for _, most := range []int{0, 2, 64} {
		w := octets.NewWriter(most)
		if most > 0 {
			put(t, w, "a")
		}
		before := w.Text()
		for _, v := range numbers() {
			for n := 1; n <= 3; n++ {
				if uint64(v) <= greatest(n) {
					continue
				}
				if e := w.Number(v, n); e != api.ErrArg {
					t.Errorf("Number(%d, %d): %d", v, n, e)
				}
			}
			for _, n := range append(far(), -3, -2, -1, 0, 5, 6, 8, 32, 256, 260) {
				if e := w.Number(v, n); e != api.ErrArg {
					t.Errorf("Number(%d, %d): %d", v, n, e)
				}
			}
			checkStands(t, "Number that may not be", w, before, api.OK)
		}
	}
}

func TestTheGreatestNumberOfEachWidth(t *testing.T) {
	for n := 1; n <= 4; n++ {
		w := octets.NewWriter(n)
		if n < 4 {
			if e := w.Number(uint32(greatest(n)+1), n); e != api.ErrArg {
				t.Errorf("Number of the first that has no room in %d octets: %d", n, e)
			}
			checkStands(t, "no room in the octets", w, "", api.OK)
		}
		if e := w.Number(uint32(greatest(n)), n); e != api.OK {
			t.Errorf("Number of the greatest of %d octets: %d", n, e)
		}
		checkStands(t, "the greatest", w, strings.Repeat("\xff", n), api.OK)
	}
}

// P3.2: Put.
func TestPuts(t *testing.T) {
	w := octets.NewWriter(1000)
	all := ""
	for _, s := range []string{"a", "", "bc", "\x00", "\xff\xfe", "é", "", strings.Repeat(".", 500)} {
		put(t, w, s)
		all += s
		checkStands(t, "Put", w, all, api.OK)
	}
}

// P3.2: filled to the last octet, and one beyond.
func TestFilledAndBeyond(t *testing.T) {
	for most := range 12 {
		for stands := range most + 1 {
			for n := 1; n <= 4; n++ {
				begun := strings.Repeat("a", stands)
				number, text := octets.NewWriter(most), octets.NewWriter(most)
				put(t, number, begun)
				put(t, text, begun)
				want, e := begun+written(7, n), api.OK
				if stands+n > most {
					want, e = begun, api.ErrLong
				}
				if got := number.Number(7, n); got != e {
					t.Errorf("Number(7, %d) behind %d of %d: %d", n, stands, most, got)
				}
				checkStands(t, "Number", number, want, e)
				if got := text.Put(written(7, n)); got != e {
					t.Errorf("Put of %d octets behind %d of %d: %d", n, stands, most, got)
				}
				checkStands(t, "Put", text, want, e)
			}
		}
	}
}

func TestAFullWriterTakesNothing(t *testing.T) {
	w := octets.NewWriter(3)
	put(t, w, "abc")
	put(t, w, "")
	if e := w.Number(256, 1); e != api.ErrArg {
		t.Errorf("a number that may not be, in a full writer: %d", e)
	}
	if e := w.Number(1, 0); e != api.ErrArg {
		t.Errorf("a number of no octets, in a full writer: %d", e)
	}
	if e := w.Patch(2, 'C', 1); e != api.OK {
		t.Errorf("Patch of a full writer: %d", e)
	}
	checkStands(t, "full", w, "abC", api.OK)
	if e := w.Put("d"); e != api.ErrLong {
		t.Errorf("one beyond: %d", e)
	}
	checkStands(t, "one beyond", w, "abC", api.ErrLong)
}

// P3.2: an error stays, whatever is called behind it.
func TestAnErrorStays(t *testing.T) {
	for what, fail := range map[string]func(w *octets.Writer) api.Errno{
		"Number": func(w *octets.Writer) api.Errno { return w.Number(1, 3) },
		"Put":    func(w *octets.Writer) api.Errno { return w.Put("xyz") },
	} {
		w := octets.NewWriter(4)
		put(t, w, "ab")
		if e := fail(w); e != api.ErrLong {
			t.Fatalf("%s: %d", what, e)
		}
		for range 2 {
			for _, n := range append(far(), -1, 0, 1, 2, 3, 4, 5) {
				for _, v := range numbers() {
					if e := w.Number(v, n); e != api.ErrLong {
						t.Errorf("Number(%d, %d) behind an error: %d", v, n, e)
					}
					if e := w.Patch(0, v, n); e != api.ErrLong {
						t.Errorf("Patch(0, %d, %d) behind an error: %d", v, n, e)
					}
				}
				if e := w.Patch(n, 0, 1); e != api.ErrLong {
					t.Errorf("Patch(%d, 0, 1) behind an error: %d", n, e)
				}
			}
			for _, s := range []string{"", "x", "xy", "xyz", "xyzxyz"} {
				if e := w.Put(s); e != api.ErrLong {
					t.Errorf("Put of %q behind an error: %d", s, e)
				}
			}
			checkStands(t, "behind an error of "+what, w, "ab", api.ErrLong)
		}
	}
}

// P3.2: Patch.
func TestPatches(t *testing.T) {
	const begun = "abcdef"
	for n := 1; n <= 4; n++ {
		for at := range len(begun) - n + 1 {
			for _, v := range numbers() {
				if uint64(v) > greatest(n) {
					continue
				}
				w := octets.NewWriter(64)
				put(t, w, begun)
				if e := w.Patch(at, v, n); e != api.OK {
					t.Errorf("Patch(%d, %d, %d): %d", at, v, n, e)
				}
				want := begun[:at] + written(v, n) + begun[at+n:]
				checkStands(t, "Patch", w, want, api.OK)
				put(t, w, "g")
				checkStands(t, "Put behind Patch", w, want+"g", api.OK)
			}
		}
	}
}

func TestPatchAgain(t *testing.T) {
	w := octets.NewWriter(4)
	put(t, w, "\x00\x00\x09")
	for _, v := range []uint32{258, 65535, 0, 1} {
		if e := w.Patch(0, v, 2); e != api.OK {
			t.Errorf("Patch(0, %d, 2): %d", v, e)
		}
		checkStands(t, "Patch again", w, written(v, 2)+"\x09", api.OK)
	}
}

// A patch of what doesn't stand is none, even where there is room, and no error of the writer.
func TestWrongPatchesChangeNothing(t *testing.T) {
	for stands := range 7 {
		begun := strings.Repeat("a", stands)
		w := octets.NewWriter(64)
		put(t, w, begun)
		for n := 1; n <= 4; n++ {
			for _, at := range append(far(), -3, -2, -1, stands-n+1, stands-n+2, stands, stands+1, stands+64) {
				if at >= 0 && at+n <= stands {
					continue
				}
				if e := w.Patch(at, 1, n); e != api.ErrArg {
					t.Errorf("Patch(%d, 1, %d) where %d stand: %d", at, n, stands, e)
				}
			}
			if n < 4 {
				if e := w.Patch(0, uint32(greatest(n)+1), n); e != api.ErrArg {
					t.Errorf("Patch of the first that has no room in %d octets: %d", n, e)
				}
			}
		}
		for _, n := range append(far(), -1, 0, 5, 256, 257) {
			if e := w.Patch(0, 0, n); e != api.ErrArg {
				t.Errorf("Patch(0, 0, %d) where %d stand: %d", n, stands, e)
			}
		}
		checkStands(t, "wrong patches", w, begun, api.OK)
		put(t, w, "b")
		checkStands(t, "Put behind wrong patches", w, begun+"b", api.OK)
	}
}

// writings is a writer beside what the chapter says of it.
type writings struct {
	w    *octets.Writer
	most int
	s    string
	e    api.Errno
}

func (m *writings) put(s string) api.Errno {
	if m.e == api.OK && len(m.s)+len(s) > m.most {
		m.e = api.ErrLong
	}
	if m.e == api.OK {
		m.s += s
	}
	return m.e
}

func mayBe(v uint32, n int) bool { return n >= 1 && n <= 4 && uint64(v) <= greatest(n) }

func (m *writings) number(v uint32, n int) api.Errno {
	if m.e == api.OK && !mayBe(v, n) {
		return api.ErrArg
	}
	if m.e != api.OK {
		return m.e
	}
	return m.put(written(v, n))
}

func (m *writings) patch(at int, v uint32, n int) api.Errno {
	if m.e != api.OK {
		return m.e
	}
	if !mayBe(v, n) || at < 0 || at+n > len(m.s) {
		return api.ErrArg
	}
	m.s = m.s[:at] + written(v, n) + m.s[at+n:]
	return api.OK
}

func (m *writings) stands() bool {
	return m.w.Text() == m.s && m.w.Len() == len(m.s) && m.w.Err() == m.e
}

// writes is a row of calls, each of which tells whether both are of one mind.
func writes() []func(m *writings) bool {
	var calls []func(m *writings) bool
	for _, s := range []string{"", "a", "bcd"} {
		calls = append(calls, func(m *writings) bool { return m.w.Put(s) == m.put(s) })
	}
	for n := range 6 {
		for _, v := range []uint32{5, 256, math.MaxUint32} {
			calls = append(calls, func(m *writings) bool { return m.w.Number(v, n) == m.number(v, n) })
		}
	}
	for _, at := range []int{-1, 0, 1, 3} {
		for _, n := range []int{1, 2} {
			calls = append(calls, func(m *writings) bool { return m.w.Patch(at, 200, n) == m.patch(at, 200, n) })
		}
	}
	return calls
}

// P3.2: each row of three calls, in rooms from -1 to 6.
func TestWriterInEachRowOfCalls(t *testing.T) {
	calls := writes()
	rows := len(calls) * len(calls) * len(calls)
	for most := -1; most <= 6; most++ {
		for row := range rows {
			m := writings{w: octets.NewWriter(most), most: max(0, most)}
			for _, k := range []int{row / len(calls) / len(calls), row / len(calls) % len(calls), row % len(calls)} {
				if !calls[k](&m) || !m.stands() {
					t.Fatalf("in room of %d, row %d, call %d is answered otherwise", most, row, k)
				}
			}
		}
	}
}

// P3.3: what was written is read.
func TestWhatWasWrittenIsRead(t *testing.T) {
	texts := []string{"", "a", "\x00\xff", strings.Repeat("é", 40)}
	w := octets.NewWriter(1 << 16)
	for _, v := range numbers() {
		for n := 1; n <= 4; n++ {
			if uint64(v) > greatest(n) {
				continue
			}
			if e := w.Number(v, n); e != api.OK {
				t.Fatalf("Number(%d, %d): %d", v, n, e)
			}
			put(t, w, texts[n-1])
		}
	}
	r := octets.NewReader(w.Text())
	for _, v := range numbers() {
		for n := 1; n <= 4; n++ {
			if uint64(v) > greatest(n) {
				continue
			}
			if got, e := r.Number(n); got != v || e != api.OK {
				t.Errorf("%d, written as %d octets, is read as %d, %d", v, n, got, e)
			}
			if got, e := r.Take(len(texts[n-1])); got != texts[n-1] || e != api.OK {
				t.Errorf("%q is read as %q, %d", texts[n-1], got, e)
			}
		}
	}
	checkAt(t, "all is read", r, w.Len(), 0)
}

func TestWhatWasPatchedIsRead(t *testing.T) {
	for n := 1; n <= 4; n++ {
		for _, v := range numbers() {
			if uint64(v) > greatest(n) {
				continue
			}
			w := octets.NewWriter(8)
			put(t, w, "abcdefgh")
			if e := w.Patch(3, v, n); e != api.OK {
				t.Fatalf("Patch(3, %d, %d): %d", v, n, e)
			}
			r := octets.NewReader(w.Text())
			seek(t, r, 3)
			if got, e := r.Number(n); got != v || e != api.OK {
				t.Errorf("%d, patched as %d octets, is read as %d, %d", v, n, got, e)
			}
		}
	}
}

// P3.3: what a writer has is never changed but by Patch; and what was answered once isn't changed by that either.
func TestWhatStandsStays(t *testing.T) {
	w := octets.NewWriter(300)
	var told []string
	all := ""
	for i := range 100 {
		s := fromOctets(i, 255-i)
		put(t, w, s[:1])
		if e := w.Number(uint32(255-i), 1); e != api.OK {
			t.Fatal(e)
		}
		all += s
		told = append(told, w.Text())
		checkStands(t, "what stands", w, all, api.OK)
	}
	for at := range 100 {
		if e := w.Patch(at, 0, 1); e != api.OK {
			t.Fatal(e)
		}
	}
	for i, s := range told {
		if s != all[:2*(i+1)] {
			t.Fatalf("the text of %d octets was changed behind its answer", 2*(i+1))
		}
	}
	checkStands(t, "patched", w, strings.Repeat("\x00", 100)+all[100:], api.OK)
}

// Writers don't know of each other.
func TestWritersStandAlone(t *testing.T) {
	a, b := octets.NewWriter(2), octets.NewWriter(2)
	put(t, a, "a")
	put(t, b, "b")
	if e := a.Put("aa"); e != api.ErrLong {
		t.Errorf("one beyond: %d", e)
	}
	checkStands(t, "the other one", b, "b", api.OK)
	put(t, b, "b")
	checkStands(t, "the other one, filled", b, "bb", api.OK)
	checkStands(t, "the first one", a, "a", api.ErrLong)
}

// Rule 7: of a reader that nobody made ErrNil, ahead of all other errors, and nothing.
func TestReadersThatNobodyMade(t *testing.T) {
	r := octets.NewReader("abcdef")
	seek(t, r, 2)
	copied := *r
	row := make([]octets.Reader, 1)
	row[0] = *octets.NewReader("abcdef")
	for what, none := range map[string]*octets.Reader{"nil": nil, "zero": {}, "new": new(octets.Reader), "a copy": &copied, "in a row": &row[0]} {
		for _, n := range append(far(), slices.Collect(span(-2, 8))...) {
			if v, e := none.Number(n); v != 0 || e != api.ErrNil {
				t.Errorf("%s: Number(%d): %d, %d", what, n, v, e)
			}
			if s, e := none.Take(n); s != "" || e != api.ErrNil {
				t.Errorf("%s: Take(%d): %q, %d", what, n, s, e)
			}
			if e := none.Seek(n); e != api.ErrNil {
				t.Errorf("%s: Seek(%d): %d", what, n, e)
			}
			checkAt(t, what, none, 0, 0)
		}
	}
	checkAt(t, "the one that was made", r, 2, 4)
	if s, e := r.Take(4); s != "cdef" || e != api.OK {
		t.Errorf("the one that was made: %q, %d", s, e)
	}
}

// span tells the numbers from one to ahead of another.
func span(from, to int) func(func(int) bool) {
	return func(yield func(int) bool) {
		for n := from; n < to && yield(n); n++ {
		}
	}
}

// Rule 7: of a writer that nobody made ErrNil, ahead of all other errors, and nothing.
func TestWritersThatNobodyMade(t *testing.T) {
	w, failed := octets.NewWriter(8), octets.NewWriter(2)
	put(t, w, "ab")
	put(t, failed, "ab")
	if e := failed.Put("c"); e != api.ErrLong {
		t.Fatal(e)
	}
	copied, copiedFailed := *w, *failed
	for what, none := range map[string]*octets.Writer{"nil": nil, "zero": {}, "new": new(octets.Writer), "a copy": &copied, "a copy of one that failed": &copiedFailed} {
		for _, n := range append(far(), slices.Collect(span(-2, 8))...) {
			for _, v := range numbers() {
				if e := none.Number(v, n); e != api.ErrNil {
					t.Errorf("%s: Number(%d, %d): %d", what, v, n, e)
				}
				if e := none.Patch(n, v, 1); e != api.ErrNil {
					t.Errorf("%s: Patch(%d, %d, 1): %d", what, n, v, e)
				}
				if e := none.Patch(0, v, n); e != api.ErrNil {
					t.Errorf("%s: Patch(0, %d, %d): %d", what, v, n, e)
				}
			}
		}
		for _, s := range []string{"", "c", strings.Repeat("c", 1000)} {
			if e := none.Put(s); e != api.ErrNil {
				t.Errorf("%s: Put of %.20q: %d", what, s, e)
			}
		}
		checkStands(t, what, none, "", api.ErrNil)
	}
	put(t, w, "cd")
	checkStands(t, "the one that was made", w, "abcd", api.OK)
	checkStands(t, "the one that failed", failed, "ab", api.ErrLong)
}
