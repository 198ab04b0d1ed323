package pack_test

import (
	"fmt"
	"math"
	"slices"
	"strings"
	"testing"

	"nameplate/api"
	"nameplate/pack"
)

const (
	high    = 16384 // 2^14: no pointer leads there
	most    = 65535 // no packer has more
	nowhere = -1    // a place where nothing stands
)

// wire is the name of labels, put together without a look at whether they may be.
func wire(labels ...string) api.Name {
	var row []byte
	for _, l := range labels {
		row = append(append(row, byte(len(l))), l...)
	}
	return api.Name(row)
}

// dots is the name whose labels stand in s with dots between.
func dots(s string) api.Name {
	if s == "" {
		return ""
	}
	return wire(strings.Split(s, ".")...)
}

// labelsOf is the labels of a name that may be, each with its length ahead.
func labelsOf(n api.Name) []string {
	var row []string
	for n != "" {
		row = append(row, string(n[:1+n[0]]))
		n = n[1+n[0]:]
	}
	return row
}

// small is labels as short as can be, small letters or large ones, whose name has n octets, from 2 on.
func small(n int, letter string) api.Name {
	row := slices.Repeat([]string{letter}, n/2)
	if n%2 == 1 {
		row[len(row)-1] += letter
	}
	return wire(row...)
}

// great is four labels, the last of k octets, whose name has 193 octets and k.
func great(k int) api.Name {
	full := strings.Repeat("B", 63)
	return wire(full, full, full, strings.Repeat("b", k))
}

// wrong is a name that may not be, and what tells of it.
type wrong struct {
	n api.Name
	e api.Errno
}

func wrongs() []wrong {
	return []wrong{
		{"\x00", api.ErrBad}, {"\x01a\x00", api.ErrBad}, {"\x00\x01a", api.ErrBad}, {"\x01", api.ErrBad}, {"\x02a", api.ErrBad}, {"a", api.ErrBad}, {".", api.ErrBad},
		{"\xc0\x00", api.ErrBad}, {"\x01a\xc0\x00", api.ErrBad}, {"\x01a\x01b\xc0\x02", api.ErrBad}, {"\xff", api.ErrBad},
		{wire(strings.Repeat("a", 64)), api.ErrBad}, {wire("a", "", "b"), api.ErrBad}, {api.Name(strings.Repeat("\x00", 254)), api.ErrBad},
		{small(254, "a") + "\x00", api.ErrLong}, {small(255, "a"), api.ErrLong}, {small(256, "a"), api.ErrLong}, {great(62), api.ErrLong},
		{api.Name(strings.Repeat("\x00", 255)), api.ErrLong}, {api.Name(strings.Repeat("a", 70000)), api.ErrLong},
	}
}

// goods is a row of names that may be.
func goods() []api.Name {
	return []api.Name{
		"", dots("a"), dots("A"), dots("ab"), dots("a.b"), dots("A.b"), dots("a.B"), dots("c.a.b"), dots("b"), dots("b.a"), dots("*.a.b"), dots("a.a.a.a"),
		wire("a.b"), wire("\x00"), wire("\xff\xc0", "\x01a"), wire("é", "É"), wire("\\", "."), wire(strings.Repeat("\xc0", 63)),
		small(253, "a"), small(254, "a"), small(254, "A"), great(1), great(60), great(61),
	}
}

// pointer is two octets that lead to a place.
func pointer(at int) string { return two(192*256 + at) }

// two is a number as two octets.
func two(v int) string { return string([]byte{byte(v / 256), byte(v % 256)}) }

// stood is a rest, and a place where it stands.
type stood struct {
	rest string
	at   int
}

// model is a packer by the chapter's words alone: what stands, each rest with each of its places, the lengths without an end.
type model struct {
	most  int
	text  string
	rests []stood
	open  []int
	e     api.Errno
}

func newModel(n int) *model { return &model{most: max(0, min(n, most))} }

// put is one step: all of s stands behind, or none of it.
func (m *model) put(s string) api.Errno {
	if m.e == api.OK && len(m.text)+len(s) > m.most {
		m.e = api.ErrLong
	}
	if m.e == api.OK {
		m.text += s
	}
	return m.e
}

// first is the first place below 2^14 where a rest stands, or nowhere.
func (m *model) first(rest string) int {
	least := nowhere
	for _, s := range m.rests {
		if s.rest == rest && s.at < high && (least == nowhere || s.at < least) {
			least = s.at
		}
	}
	return least
}

// check is name.Check, by the tests' own reckoning.
func check(n api.Name) api.Errno {
	if len(n) > 254 {
		return api.ErrLong
	}
	for at := 0; at < len(n); at += 1 + int(n[at]) {
		if n[at] == 0 || n[at] > 63 || at+int(n[at]) >= len(n) {
			return api.ErrBad
		}
	}
	return api.OK
}

func (m *model) name(n api.Name) api.Errno {
	if m.e != api.OK {
		return m.e
	}
	if e := check(n); e != api.OK {
		return e
	}
	row := labelsOf(n)
	for i, l := range row {
		rest := strings.Join(row[i:], "")
		if at := m.first(rest); at != nowhere {
			return m.put(pointer(at))
		}
		at := len(m.text)
		if m.put(l) != api.OK {
			return m.e
		}
		m.rests = append(m.rests, stood{rest, at})
	}
	return m.put("\x00")
}

func (m *model) plain(n api.Name) api.Errno {
	if m.e != api.OK {
		return m.e
	}
	if e := check(n); e != api.OK {
		return e
	}
	for _, l := range labelsOf(n) {
		if m.put(l) != api.OK {
			return m.e
		}
	}
	return m.put("\x00")
}

func (m *model) begin() (int, api.Errno) {
	at := len(m.text)
	if m.put("\x00\x00") != api.OK {
		return 0, m.e
	}
	m.open = append(m.open, at)
	return at, api.OK
}

func (m *model) end(at int) api.Errno {
	if m.e != api.OK {
		return m.e
	}
	if len(m.open) == 0 || m.open[len(m.open)-1] != at {
		return api.ErrState
	}
	m.open = m.open[:len(m.open)-1]
	m.text = m.text[:at] + two(len(m.text)-at-2) + m.text[at+2:]
	return api.OK
}

// short is a text as far as a row of the tests' words has room for it.
func short(s string) string {
	if len(s) > 80 {
		return fmt.Sprintf("%q .. %q", s[:40], s[len(s)-40:])
	}
	return fmt.Sprintf("%q", s)
}

// checkStands holds what a packer has against what it should have.
func checkStands(t *testing.T, what string, p *pack.Packer, text string, e api.Errno) {
	t.Helper()
	if p.Text() != text || p.Len() != len(text) || p.Err() != e {
		t.Errorf("%s: %s, %d, %d, not %s, %d, %d", what, short(p.Text()), p.Len(), p.Err(), short(text), len(text), e)
	}
}

// packer is one of so many octets at most.
func packer(t *testing.T, n int) *pack.Packer {
	t.Helper()
	p := pack.New(n)
	if p == nil {
		t.Fatalf("New(%d) is nil", n)
	}
	return p
}

// ok is for a call that should not fail.
func ok(t *testing.T, what string, e api.Errno) {
	t.Helper()
	if e != api.OK {
		t.Fatalf("%s: %d", what, e)
	}
}

func names(t *testing.T, p *pack.Packer, row ...string) {
	t.Helper()
	for _, s := range row {
		ok(t, "Name of "+s, p.Name(dots(s)))
	}
}

// fill puts octets till so many stand.
func fill(t *testing.T, p *pack.Packer, n int) {
	t.Helper()
	ok(t, "Put", p.Put(strings.Repeat("x", n-p.Len())))
}

func begin(t *testing.T, p *pack.Packer) int {
	t.Helper()
	want := p.Len()
	at, e := p.Begin()
	if at != want || e != api.OK {
		t.Fatalf("Begin at %d: %d, %d", want, at, e)
	}
	return at
}

// read is the tests' own reading of a name at a place: pointers lead back, each ahead of where the run before began.
func read(s string, at int) (n api.Name, end int, good bool) {
	run := at
	for at < len(s) {
		c := int(s[at])
		switch {
		case c == 0:
			return n, max(end, at+1), true
		case c < 64 && at+c < len(s):
			n += api.Name(s[at : at+1+c])
			at += 1 + c
		case c >= 192 && at+1 < len(s) && (c-192)*256+int(s[at+1]) < run:
			if end == 0 {
				end = at + 2
			}
			at = (c-192)*256 + int(s[at+1])
			run = at
		default:
			return "", 0, false
		}
		if end > 0 && at > end {
			return "", 0, false
		}
	}
	return "", 0, false
}

// The chapter's example.
func TestExample(t *testing.T) {
	p := packer(t, 512)
	names(t, p, "a.b", "c.b", "a.b")
	checkStands(t, "Name a.b; Name c.b; Name a.b", p, "\x01a\x01b\x00\x01c\xc0\x02\xc0\x00", api.OK)
}

// P7.1: New.
func TestNewIsEmpty(t *testing.T) {
	for _, n := range []int{math.MinInt, -65536, -1, 0, 1, 2, 512, 65534, 65535, 65536, 131071, 1 << 32, 1<<32 + 1, math.MaxInt} {
		checkStands(t, fmt.Sprintf("New(%d)", n), packer(t, n), "", api.OK)
	}
}

func TestNewOfNoRoom(t *testing.T) {
	for _, n := range []int{math.MinInt, math.MinInt + 1, -65536, -65535, -1, 0} {
		for what, call := range map[string]func(*pack.Packer) api.Errno{
			"Name of the root":  func(p *pack.Packer) api.Errno { return p.Name("") },
			"Name of a":         func(p *pack.Packer) api.Errno { return p.Name(dots("a")) },
			"Plain of the root": func(p *pack.Packer) api.Errno { return p.Plain("") },
			"Number(0, 1)":      func(p *pack.Packer) api.Errno { return p.Number(0, 1) },
			"Put of a":          func(p *pack.Packer) api.Errno { return p.Put("a") },
			"Begin":             func(p *pack.Packer) api.Errno { _, e := p.Begin(); return e },
		} {
			p := packer(t, n)
			ok(t, "Put of nothing", p.Put(""))
			if e := call(p); e != api.ErrLong {
				t.Errorf("%s in room of %d: %d", what, n, e)
			}
			checkStands(t, what+" in no room", p, "", api.ErrLong)
		}
	}
}

func TestNewOfOne(t *testing.T) {
	for what, call := range map[string]func(*pack.Packer) api.Errno{
		"Name of the root":  func(p *pack.Packer) api.Errno { return p.Name("") },
		"Plain of the root": func(p *pack.Packer) api.Errno { return p.Plain("") },
		"Number(0, 1)":      func(p *pack.Packer) api.Errno { return p.Number(0, 1) },
		"Put of a nought":   func(p *pack.Packer) api.Errno { return p.Put("\x00") },
	} {
		p := packer(t, 1)
		if e := call(p); e != api.OK {
			t.Errorf("%s in room of 1: %d", what, e)
		}
		checkStands(t, what, p, "\x00", api.OK)
		if e := call(p); e != api.ErrLong {
			t.Errorf("%s in room of none any more: %d", what, e)
		}
		checkStands(t, what+" twice", p, "\x00", api.ErrLong)
	}
}

func TestNewOfAllAndMore(t *testing.T) {
	for _, n := range []int{65535, 65536, 65537, 131071, 1 << 32, 1<<32 + 1, math.MaxInt - 1, math.MaxInt} {
		all := strings.Repeat("x", 65535)
		p := packer(t, n)
		ok(t, "Put of 65,535 octets", p.Put(all))
		checkStands(t, "all", p, all, api.OK)
		if e := p.Put("x"); e != api.ErrLong {
			t.Errorf("Put of one more, with room of %d: %d", n, e)
		}
		checkStands(t, "one more", p, all, api.ErrLong)
		p = packer(t, n)
		if e := p.Put(all + "x"); e != api.ErrLong {
			t.Errorf("Put of 65,536 octets, with room of %d: %d", n, e)
		}
		checkStands(t, "all at once", p, "", api.ErrLong)
	}
	p := packer(t, 65534)
	if e := p.Put(strings.Repeat("x", 65535)); e != api.ErrLong {
		t.Errorf("Put of 65,535 octets, with room of 65,534: %d", e)
	}
}

// P7.1: Name.
func TestNames(t *testing.T) {
	for _, c := range []struct {
		row  []string
		want string
	}{
		{[]string{""}, "\x00"},
		{[]string{"", "", ""}, "\x00\x00\x00"},
		{[]string{"a"}, "\x01a\x00"},
		{[]string{"www.a"}, "\x03www\x01a\x00"},
		// A name twice.
		{[]string{"a", "a"}, "\x01a\x00\xc0\x00"},
		{[]string{"a", "a", "a"}, "\x01a\x00\xc0\x00\xc0\x00"},
		{[]string{"a.b", "", "a.b"}, "\x01a\x01b\x00\x00\xc0\x00"},
		// A name that is the rest of an earlier one, and one that has an earlier one as its rest.
		{[]string{"a.b.c", "b.c", "c"}, "\x01a\x01b\x01c\x00\xc0\x02\xc0\x04"},
		{[]string{"c", "b.c", "a.b.c"}, "\x01c\x00\x01b\xc0\x00\x01a\xc0\x03"},
		{[]string{"b", "a.b", "a.b", "c.a.b"}, "\x01b\x00\x01a\xc0\x00\xc0\x03\x01c\xc0\x03"},
		{[]string{"a.b.c", "d.b.c", "e.c", "f.d.b.c"}, "\x01a\x01b\x01c\x00\x01d\xc0\x02\x01e\xc0\x04\x01f\xc0\x07"},
		// The first labels are no rest, nor is what is between.
		{[]string{"a.b", "a"}, "\x01a\x01b\x00\x01a\x00"},
		{[]string{"a.b.c", "a.b"}, "\x01a\x01b\x01c\x00\x01a\x01b\x00"},
		{[]string{"a.b.c", "b"}, "\x01a\x01b\x01c\x00\x01b\x00"},
		// A name whose own labels are alike.
		{[]string{"a.a.a", "a", "a.a", "a.a.a.a"}, "\x01a\x01a\x01a\x00\xc0\x04\xc0\x02\x01a\xc0\x00"},
		// The root alone is never a rest.
		{[]string{"", "a", "", "b"}, "\x00\x01a\x00\x00\x01b\x00"},
		// Case and all.
		{[]string{"a", "A"}, "\x01a\x00\x01A\x00"},
		{[]string{"a", "A", "a", "A"}, "\x01a\x00\x01A\x00\xc0\x00\xc0\x03"},
		{[]string{"a.b", "A.b"}, "\x01a\x01b\x00\x01A\xc0\x02"},
		{[]string{"a.b", "a.B", "A.B", "a.B"}, "\x01a\x01b\x00\x01a\x01B\x00\x01A\xc0\x07\xc0\x05"},
		{[]string{"Www.Ab", "www.Ab", "Www.ab"}, "\x03Www\x02Ab\x00\x03www\xc0\x04\x03Www\x02ab\x00"},
	} {
		p := packer(t, len(c.want))
		names(t, p, c.row...)
		checkStands(t, fmt.Sprintf("Names %q", c.row), p, c.want, api.OK)
	}
}

func TestNamesOfOddOctets(t *testing.T) {
	for _, c := range []struct {
		row  []api.Name
		want string
	}{
		{[]api.Name{wire("a.b"), dots("a.b"), wire("a.b")}, "\x03a.b\x00\x01a\x01b\x00\xc0\x00"},
		// A label whose octets are a name's is none.
		{[]api.Name{wire("\x01a"), dots("a")}, "\x02\x01a\x00\x01a\x00"},
		{[]api.Name{wire("x", "\x01b"), wire("b"), wire("y", "\x01b")}, "\x01x\x02\x01b\x00\x01b\x00\x01y\xc0\x02"},
		{[]api.Name{wire("\x00", "\xff"), wire("\xff"), wire("\x00")}, "\x01\x00\x01\xff\x00\xc0\x02\x01\x00\x00"},
		{[]api.Name{wire("é"), wire("É"), wire("é")}, "\x02é\x00\x02É\x00\xc0\x00"},
	} {
		p := packer(t, len(c.want))
		for _, n := range c.row {
			ok(t, "Name", p.Name(n))
		}
		checkStands(t, fmt.Sprintf("Names %q", c.row), p, c.want, api.OK)
	}
}

func TestNamesOfMostOctets(t *testing.T) {
	for _, n := range goods() {
		p := packer(t, most)
		ok(t, "Name", p.Name(n))
		checkStands(t, "a name alone", p, string(n)+"\x00", api.OK)
		rest := n
		for at := 0; rest != ""; {
			before := p.Text()
			ok(t, "Name", p.Name(rest))
			checkStands(t, "a name's rest", p, before+pointer(at), api.OK)
			k := 1 + int(rest[0])
			at, rest = at+k, rest[k:]
		}
	}
}

func TestNameThatMayNotBe(t *testing.T) {
	for _, w := range wrongs() {
		p := packer(t, 100)
		names(t, p, "a.b")
		for range 2 {
			if e := p.Name(w.n); e != w.e {
				t.Errorf("Name of %s: %d, not %d", short(string(w.n)), e, w.e)
			}
			if e := p.Plain(w.n); e != w.e {
				t.Errorf("Plain of %s: %d, not %d", short(string(w.n)), e, w.e)
			}
			checkStands(t, "a name that may not be", p, "\x01a\x01b\x00", api.OK)
		}
		// Nothing stands by it, and what stood still does.
		names(t, p, "a", "a.b")
		checkStands(t, "behind a name that may not be", p, "\x01a\x01b\x00\x01a\x00\xc0\x00", api.OK)
	}
}

// A name's error counts ahead of room that it has not.
func TestNameThatMayNotBeWithoutRoom(t *testing.T) {
	for _, w := range wrongs() {
		p := packer(t, 0)
		if e := p.Name(w.n); e != w.e {
			t.Errorf("Name of %s: %d, not %d", short(string(w.n)), e, w.e)
		}
		if e := p.Plain(w.n); e != w.e {
			t.Errorf("Plain of %s: %d, not %d", short(string(w.n)), e, w.e)
		}
		checkStands(t, "a name that may not be, without room", p, "", api.OK)
	}
}

// P7.1: places about 2^14.
func TestPlacesThatPointersLeadTo(t *testing.T) {
	for _, c := range []struct {
		at   int
		want string // behind the first a.b: what a.b, b, c.b, a.b are then
	}{
		{0, "\xc0\x00\xc0\x02\x01c\xc0\x02\xc0\x00"},
		{1, "\xc0\x01\xc0\x03\x01c\xc0\x03\xc0\x01"},
		{253, "\xc0\xfd\xc0\xff\x01c\xc0\xff\xc0\xfd"},
		{255, "\xc0\xff\xc1\x01\x01c\xc1\x01\xc0\xff"},
		{256, "\xc1\x00\xc1\x02\x01c\xc1\x02\xc1\x00"},
		{8192, "\xe0\x00\xe0\x02\x01c\xe0\x02\xe0\x00"},
		{16380, "\xff\xfc\xff\xfe\x01c\xff\xfe\xff\xfc"},
		{16381, "\xff\xfd\xff\xff\x01c\xff\xff\xff\xfd"},
		{16382, "\xff\xfe\x01b\x00\x01c\x01b\x00\xff\xfe"},
		{16383, "\xff\xff\x01b\x00\x01c\x01b\x00\xff\xff"},
		{16384, "\x01a\x01b\x00\x01b\x00\x01c\x01b\x00\x01a\x01b\x00"},
		{16385, "\x01a\x01b\x00\x01b\x00\x01c\x01b\x00\x01a\x01b\x00"},
		{20000, "\x01a\x01b\x00\x01b\x00\x01c\x01b\x00\x01a\x01b\x00"},
		{32768, "\x01a\x01b\x00\x01b\x00\x01c\x01b\x00\x01a\x01b\x00"},
		{65536 - 100, "\x01a\x01b\x00\x01b\x00\x01c\x01b\x00\x01a\x01b\x00"},
	} {
		p := packer(t, most)
		fill(t, p, c.at)
		names(t, p, "a.b", "a.b", "b", "c.b", "a.b")
		checkStands(t, fmt.Sprintf("a.b at %d", c.at), p, strings.Repeat("x", c.at)+"\x01a\x01b\x00"+c.want, api.OK)
	}
}

func TestPointersStandAnywhere(t *testing.T) {
	for _, at := range []int{5, 16382, 16383, 16384, 16385, 30000, 65527} {
		p := packer(t, most)
		names(t, p, "a.b")
		fill(t, p, at)
		names(t, p, "a.b", "c.b", "b")
		checkStands(t, fmt.Sprintf("pointers at %d", at), p, "\x01a\x01b\x00"+strings.Repeat("x", at-5)+"\xc0\x00\x01c\xc0\x02\xc0\x02", api.OK)
	}
}

// A rest that ends in a pointer behind 2^14 stands nowhere, however often it is put.
func TestRestsBehindTheHighestPlace(t *testing.T) {
	p := packer(t, most)
	names(t, p, "b")
	fill(t, p, high)
	names(t, p, "a.b", "a.b", "c.a.b")
	checkStands(t, "a.b behind 2^14", p, "\x01b\x00"+strings.Repeat("x", high-3)+"\x01a\xc0\x00\x01a\xc0\x00\x01c\x01a\xc0\x00", api.OK)
}

// P7.1: of two places the first one is told.
func TestTheFirstPlaceIsTold(t *testing.T) {
	// By a pointer, a.b is told to stand again: it is its first place that counts.
	p := packer(t, most)
	names(t, p, "a.b", "a.b", "c.a.b", "a.b", "d.c.a.b", "c.a.b")
	checkStands(t, "a.b again and again", p, "\x01a\x01b\x00\xc0\x00\x01c\xc0\x00\xc0\x00\x01d\xc0\x07\xc0\x07", api.OK)
	// One place below 2^14, and one behind it.
	p = packer(t, most)
	names(t, p, "a.b")
	fill(t, p, high)
	ok(t, "Plain", p.Plain(dots("a.b")))
	names(t, p, "a.b")
	checkStands(t, "a.b ahead of 2^14 and behind it", p, "\x01a\x01b\x00"+strings.Repeat("x", high-5)+"\x01a\x01b\x00\xc0\x00", api.OK)
	// Two places behind 2^14 are none.
	p = packer(t, most)
	fill(t, p, high)
	names(t, p, "a", "a", "a")
	checkStands(t, "a thrice behind 2^14", p, strings.Repeat("x", high)+"\x01a\x00\x01a\x00\x01a\x00", api.OK)
}

// P7.1: Plain.
func TestPlains(t *testing.T) {
	for _, n := range goods() {
		p := packer(t, 1024)
		for i := range 3 {
			ok(t, "Plain", p.Plain(n))
			checkStands(t, "Plain", p, strings.Repeat(string(n)+"\x00", i+1), api.OK)
		}
		ok(t, "Name", p.Name(n))
		checkStands(t, "Name behind Plains", p, strings.Repeat(string(n)+"\x00", 4), api.OK)
	}
}

func TestPlainHasNoPointersAndNoneLeadsToIt(t *testing.T) {
	p := packer(t, 512)
	ok(t, "Plain", p.Plain(dots("a.b")))
	names(t, p, "a.b")
	checkStands(t, "Name of what Plain put", p, "\x01a\x01b\x00\x01a\x01b\x00", api.OK)
	names(t, p, "a.b", "b")
	checkStands(t, "Name of what both put", p, "\x01a\x01b\x00\x01a\x01b\x00\xc0\x05\xc0\x07", api.OK)

	p = packer(t, 512)
	names(t, p, "a.b")
	ok(t, "Plain", p.Plain(dots("a.b")))
	ok(t, "Plain", p.Plain(dots("c.b")))
	names(t, p, "c.b", "c.b", "a.b", "d.a.b")
	checkStands(t, "Plain of what Name put", p, "\x01a\x01b\x00\x01a\x01b\x00\x01c\x01b\x00\x01c\xc0\x02\xc0\x0f\xc0\x00\x01d\xc0\x00", api.OK)

	// A name whose rest alone was put by Plain.
	p = packer(t, 512)
	ok(t, "Plain", p.Plain(dots("b.c")))
	names(t, p, "a.b.c", "b.c", "c")
	checkStands(t, "a.b.c behind Plain of b.c", p, "\x01b\x01c\x00\x01a\x01b\x01c\x00\xc0\x07\xc0\x09", api.OK)
}

// Octets that look like a name are none.
func TestNothingStandsByPutAndNumber(t *testing.T) {
	p := packer(t, 512)
	ok(t, "Put", p.Put("\x01a\x00"))
	ok(t, "Number", p.Number(0x016100, 3))
	names(t, p, "a", "a")
	checkStands(t, "a behind its octets", p, "\x01a\x00\x01a\x00\x01a\x00\xc0\x06", api.OK)
}

// P7.1: Number and Put, as octets' are.
func TestNumbers(t *testing.T) {
	p := packer(t, 100)
	want := ""
	for _, c := range []struct {
		v    uint32
		n    int
		want string
		e    api.Errno
	}{
		{0, 1, "\x00", api.OK}, {255, 1, "\xff", api.OK}, {258, 2, "\x01\x02", api.OK}, {1, 2, "\x00\x01", api.OK}, {65535, 2, "\xff\xff", api.OK},
		{66051, 3, "\x01\x02\x03", api.OK}, {1<<24 - 1, 3, "\xff\xff\xff", api.OK}, {0, 4, "\x00\x00\x00\x00", api.OK}, {16909060, 4, "\x01\x02\x03\x04", api.OK},
		{math.MaxUint32, 4, "\xff\xff\xff\xff", api.OK},
		{256, 1, "", api.ErrArg}, {65536, 2, "", api.ErrArg}, {1 << 24, 3, "", api.ErrArg}, {math.MaxUint32, 1, "", api.ErrArg}, {math.MaxUint32, 3, "", api.ErrArg},
		{0, 0, "", api.ErrArg}, {0, -1, "", api.ErrArg}, {0, 5, "", api.ErrArg}, {1, 8, "", api.ErrArg}, {0, math.MinInt, "", api.ErrArg}, {0, math.MaxInt, "", api.ErrArg},
	} {
		if e := p.Number(c.v, c.n); e != c.e {
			t.Errorf("Number(%d, %d): %d, not %d", c.v, c.n, e, c.e)
		}
		want += c.want
		checkStands(t, fmt.Sprintf("Number(%d, %d)", c.v, c.n), p, want, api.OK)
	}
}

func TestPuts(t *testing.T) {
	p := packer(t, 1024)
	want := ""
	for _, s := range []string{"", "a", "\x00\xff", "", "\xc0\x00", "é", strings.Repeat("z", 900)} {
		ok(t, "Put", p.Put(s))
		want += s
		checkStands(t, fmt.Sprintf("Put of %.10q", s), p, want, api.OK)
	}
}

// A wrong number counts ahead of room that it has not.
func TestWrongNumberWithoutRoom(t *testing.T) {
	p := packer(t, 0)
	for _, n := range []int{-1, 0, 5} {
		if e := p.Number(0, n); e != api.ErrArg {
			t.Errorf("Number(0, %d) without room: %d", n, e)
		}
	}
	if e := p.Number(256, 1); e != api.ErrArg {
		t.Errorf("Number(256, 1) without room: %d", e)
	}
	checkStands(t, "wrong numbers without room", p, "", api.OK)
}

// step is one step of what is put, and the call that it belongs to.
type step struct {
	call int
	s    string
}

// Just so much room, and one octet too few, at each step of names that are put in part.
func TestRoomAtEachStep(t *testing.T) {
	calls := []func(*pack.Packer) api.Errno{
		func(p *pack.Packer) api.Errno { return p.Name(dots("www.ab.c")) },
		func(p *pack.Packer) api.Errno { return p.Number(66051, 3) },
		func(p *pack.Packer) api.Errno { return p.Name(dots("x.yyy.ab.c")) },
		func(p *pack.Packer) api.Errno { return p.Put("12345") },
		func(p *pack.Packer) api.Errno { return p.Name("") },
		func(p *pack.Packer) api.Errno { return p.Name(dots("c")) },
		func(p *pack.Packer) api.Errno { return p.Plain(dots("q.ab.c")) },
		func(p *pack.Packer) api.Errno { return p.Name(dots("ab.C")) },
		func(p *pack.Packer) api.Errno { _, e := p.Begin(); return e },
	}
	steps := []step{
		{0, "\x03www"}, {0, "\x02ab"}, {0, "\x01c"}, {0, "\x00"},
		{1, "\x01\x02\x03"},
		{2, "\x01x"}, {2, "\x03yyy"}, {2, "\xc0\x04"},
		{3, "12345"},
		{4, "\x00"},
		{5, "\xc0\x07"},
		{6, "\x01q"}, {6, "\x02ab"}, {6, "\x01c"}, {6, "\x00"},
		{7, "\x02ab"}, {7, "\x01C"}, {7, "\x00"},
		{8, "\x00\x00"},
	}
	whole := ""
	for _, s := range steps {
		whole += s.s
	}
	for room := range len(whole) + 1 {
		stands, fails := "", len(calls)
		for _, s := range steps {
			if len(stands)+len(s.s) > room {
				fails = s.call
				break
			}
			stands += s.s
		}
		p := packer(t, room)
		for i, call := range calls {
			want := api.OK
			if i >= fails {
				want = api.ErrLong
			}
			if e := call(p); e != want {
				t.Errorf("call %d in room of %d: %d, not %d", i, room, e, want)
			}
		}
		e := api.OK
		if fails < len(calls) {
			e = api.ErrLong
		}
		checkStands(t, fmt.Sprintf("room of %d", room), p, stands, e)
		if fails < len(calls) {
			checkStuck(t, p)
		}
	}
}

// checkStuck holds each call behind ErrLong against what it should be.
func checkStuck(t *testing.T, p *pack.Packer) {
	t.Helper()
	text := p.Text()
	for range 2 {
		for what, e := range map[string]api.Errno{
			"Name of the root":     p.Name(""),
			"Name of c":            p.Name(dots("c")),
			"a bad Name":           p.Name("\x00"),
			"Plain of the root":    p.Plain(""),
			"a bad Plain":          p.Plain("\x00"),
			"Number(0, 1)":         p.Number(0, 1),
			"Number(256, 1)":       p.Number(256, 1),
			"Number(0, 0)":         p.Number(0, 0),
			"Put of nothing":       p.Put(""),
			"Put of a":             p.Put("a"),
			"End(0)":               p.End(0),
			"End(-1)":              p.End(-1),
			"End of what stands":   p.End(len(text)),
			"End of the last two":  p.End(len(text) - 2),
			"End of no place":      p.End(math.MaxInt),
			"Err":                  p.Err(),
			"Err, asked once more": p.Err(),
		} {
			if e != api.ErrLong {
				t.Errorf("%s behind ErrLong: %d", what, e)
			}
		}
		if at, e := p.Begin(); at != 0 || e != api.ErrLong {
			t.Errorf("Begin behind ErrLong: %d, %d", at, e)
		}
		checkStands(t, "behind ErrLong", p, text, api.ErrLong)
	}
}

// A longest name in room for all but its last octet.
func TestRoomForTheLongestName(t *testing.T) {
	for _, n := range []api.Name{small(254, "a"), great(61)} {
		row := labelsOf(n)
		for room := range 256 {
			stands := ""
			for _, l := range append(slices.Clone(row), "\x00") {
				if len(stands)+len(l) > room {
					break
				}
				stands += l
			}
			want := api.OK
			if room < 255 {
				want = api.ErrLong
			}
			p, q := packer(t, room), packer(t, room)
			if e := p.Name(n); e != want {
				t.Errorf("Name of 255 octets in room of %d: %d, not %d", room, e, want)
			}
			if e := q.Plain(n); e != want {
				t.Errorf("Plain of 255 octets in room of %d: %d, not %d", room, e, want)
			}
			checkStands(t, fmt.Sprintf("Name in room of %d", room), p, stands, want)
			checkStands(t, fmt.Sprintf("Plain in room of %d", room), q, stands, want)
		}
	}
}

// P7.2: Begin and End.
func TestBeginsAndEnds(t *testing.T) {
	p := packer(t, 100)
	ok(t, "Put", p.Put("ab"))
	at := begin(t, p)
	checkStands(t, "Begin", p, "ab\x00\x00", api.OK)
	ok(t, "Put", p.Put("cde"))
	checkStands(t, "what is behind it", p, "ab\x00\x00cde", api.OK)
	ok(t, "End", p.End(at))
	checkStands(t, "End", p, "ab\x00\x03cde", api.OK)
	ok(t, "Put", p.Put("f"))
	checkStands(t, "behind End", p, "ab\x00\x03cdef", api.OK)
	if e := p.End(at); e != api.ErrState {
		t.Errorf("End(%d) twice: %d", at, e)
	}
	checkStands(t, "End twice", p, "ab\x00\x03cdef", api.OK)
}

func TestLengthsOfSoManyOctets(t *testing.T) {
	for _, n := range []int{0, 1, 2, 127, 128, 254, 255, 256, 257, 511, 512, 16384, 32767, 32768, 65279, 65280, 65532, 65533} {
		for _, ahead := range []int{0, 1, 2, 300} {
			if ahead+2+n > most {
				continue
			}
			p := packer(t, ahead+2+n)
			fill(t, p, ahead)
			at := begin(t, p)
			fill(t, p, ahead+2+n)
			ok(t, "End", p.End(at))
			checkStands(t, fmt.Sprintf("a length of %d", n), p, strings.Repeat("x", ahead)+two(n)+strings.Repeat("x", n), api.OK)
		}
	}
}

func TestLengthsWithinOneAnother(t *testing.T) {
	p := packer(t, 100)
	a := begin(t, p)
	b := begin(t, p)
	ok(t, "Put", p.Put("1"))
	c := begin(t, p)
	for _, at := range []int{a, b, 1, 3, 4, 6, 7, -1, math.MinInt, math.MaxInt} {
		if e := p.End(at); e != api.ErrState {
			t.Errorf("End(%d), where %d is the last one: %d", at, c, e)
		}
		checkStands(t, "End out of order", p, "\x00\x00\x00\x001\x00\x00", api.OK)
	}
	ok(t, "End of the last one", p.End(c))
	checkStands(t, "nothing behind it", p, "\x00\x00\x00\x001\x00\x00", api.OK)
	ok(t, "Put", p.Put("23"))
	if e := p.End(a); e != api.ErrState {
		t.Errorf("End of the first one, where the second has none: %d", e)
	}
	if e := p.End(c); e != api.ErrState {
		t.Errorf("End of the third one twice: %d", e)
	}
	ok(t, "End of the second one", p.End(b))
	checkStands(t, "three and two behind it", p, "\x00\x00\x00\x051\x00\x0023", api.OK)
	d := begin(t, p)
	ok(t, "Put", p.Put("4"))
	if e := p.End(a); e != api.ErrState {
		t.Errorf("End of the first one, where the fourth has none: %d", e)
	}
	ok(t, "End of the fourth one", p.End(d))
	ok(t, "End of the first one", p.End(a))
	checkStands(t, "all ended", p, "\x00\x0a\x00\x051\x00\x0023\x00\x014", api.OK)
	for _, at := range []int{a, b, c, d} {
		if e := p.End(at); e != api.ErrState {
			t.Errorf("End(%d) twice: %d", at, e)
		}
	}
	checkStands(t, "all ended twice", p, "\x00\x0a\x00\x051\x00\x0023\x00\x014", api.OK)
}

func TestEndWithoutBegin(t *testing.T) {
	for _, s := range []string{"", "a", "\x00\x00", "\x00\x00abc"} {
		p := packer(t, 100)
		ok(t, "Put", p.Put(s))
		for _, at := range []int{math.MinInt, -2, -1, 0, 1, 2, 3, 5, 65535, 65536, math.MaxInt} {
			if e := p.End(at); e != api.ErrState {
				t.Errorf("End(%d) of %q without a Begin: %d", at, s, e)
			}
			checkStands(t, "End without a Begin", p, s, api.OK)
		}
	}
}

func TestBeginWithoutRoom(t *testing.T) {
	for _, c := range []struct {
		most, ahead int
	}{{0, 0}, {1, 0}, {1, 1}, {5, 4}, {5, 5}, {65535, 65534}, {65535, 65535}, {70000, 65534}} {
		p := packer(t, c.most)
		fill(t, p, c.ahead)
		if at, e := p.Begin(); at != 0 || e != api.ErrLong {
			t.Errorf("Begin behind %d octets of %d: %d, %d", c.ahead, c.most, at, e)
		}
		checkStands(t, "Begin without room", p, strings.Repeat("x", c.ahead), api.ErrLong)
		for _, at := range []int{0, c.ahead} {
			if e := p.End(at); e != api.ErrLong {
				t.Errorf("End(%d) of what had no room: %d", at, e)
			}
		}
		checkStuck(t, p)
	}
	for _, n := range []int{2, 3, 65535} {
		p := packer(t, n)
		fill(t, p, n-2)
		at := begin(t, p)
		ok(t, "End", p.End(at))
		checkStands(t, "Begin in just so much room", p, strings.Repeat("x", n-2)+"\x00\x00", api.OK)
	}
}

// What is begun has no end behind ErrLong.
func TestEndBehindErrLong(t *testing.T) {
	p := packer(t, 6)
	at := begin(t, p)
	ok(t, "Put", p.Put("abc"))
	if e := p.Put("de"); e != api.ErrLong {
		t.Errorf("Put of one octet too many: %d", e)
	}
	if e := p.End(at); e != api.ErrLong {
		t.Errorf("End behind ErrLong: %d", e)
	}
	checkStands(t, "End behind ErrLong", p, "\x00\x00abc", api.ErrLong)
}

// Names point past lengths, and a length counts pointers as they stand.
func TestLengthsOfNames(t *testing.T) {
	p := packer(t, 100)
	names(t, p, "a.b")
	at := begin(t, p)
	names(t, p, "c.b", "a.b")
	ok(t, "End", p.End(at))
	names(t, p, "c.b")
	checkStands(t, "names within a length", p, "\x01a\x01b\x00\x00\x06\x01c\xc0\x02\xc0\x00\xc0\x07", api.OK)
}

// P7.2: Len, Text and Err, between all others.
func TestAskedBetween(t *testing.T) {
	p := packer(t, 9)
	checkStands(t, "ahead of all", p, "", api.OK)
	names(t, p, "a")
	before := p.Text()
	checkStands(t, "behind a", p, "\x01a\x00", api.OK)
	at := begin(t, p)
	checkStands(t, "behind Begin", p, "\x01a\x00\x00\x00", api.OK)
	names(t, p, "a")
	begun := p.Text()
	ok(t, "End", p.End(at))
	checkStands(t, "behind End", p, "\x01a\x00\x00\x02\xc0\x00", api.OK)
	if e := p.Put("abc"); e != api.ErrLong {
		t.Errorf("Put of one octet too many: %d", e)
	}
	checkStands(t, "behind ErrLong", p, "\x01a\x00\x00\x02\xc0\x00", api.ErrLong)
	if before != "\x01a\x00" || begun != "\x01a\x00\x00\x00\xc0\x00" {
		t.Errorf("texts that were answered are now %q, %q", before, begun)
	}
}

// P7.2: Size.
func TestSizes(t *testing.T) {
	for _, c := range []struct {
		n    api.Name
		want int
	}{
		{"", 1}, {dots("a"), 3}, {dots("a.b"), 5}, {dots("www.a"), 7}, {wire("\x00"), 3}, {wire("\xff\xc0"), 4}, {wire(strings.Repeat("a", 63)), 65},
		{small(253, "a"), 254}, {small(254, "a"), 255}, {great(60), 254}, {great(61), 255},
	} {
		if got := pack.Size(c.n); got != c.want {
			t.Errorf("Size of %s: %d, not %d", short(string(c.n)), got, c.want)
		}
	}
	for _, w := range wrongs() {
		if got := pack.Size(w.n); got != 0 {
			t.Errorf("Size of %s, which may not be: %d", short(string(w.n)), got)
		}
	}
}

// P7.3: each row of a few names: no more octets than Size, and read again at its place.
func TestWhatWasPutIsRead(t *testing.T) {
	row := goods()
	for i := range len(row) * len(row) * len(row) {
		p := packer(t, 4096)
		ok(t, "Put", p.Put("12"))
		places, put := []int{}, []api.Name{row[i%len(row)], row[i/len(row)%len(row)], row[i/len(row)/len(row)]}
		for _, n := range put {
			from := p.Len()
			ok(t, "Name", p.Name(n))
			places = append(places, from)
			if took := p.Len() - from; took > pack.Size(n) || took < 1 {
				t.Fatalf("Name of %s: %d octets, and Size %d", short(string(n)), took, pack.Size(n))
			}
		}
		places = append(places, p.Len())
		for j, n := range put {
			if got, end, good := read(p.Text(), places[j]); got != n || end != places[j+1] || !good {
				t.Fatalf("name %d of %q is read as %s, till %d", j, put, short(string(got)), end)
			}
		}
	}
}

// draws is a row of numbers as good as drawn, the same each time.
type draws struct{ state uint32 }

func (d *draws) below(n int) int {
	d.state = d.state*1664525 + 1013904223
	return int(d.state>>8) % n
}

// name is one of many names whose rests are often alike, some of them long.
func (d *draws) name() api.Name {
	row := []string{}
	for range d.below(5) {
		l := string([]byte{"abAB"[d.below(4)]})
		if d.below(8) == 0 {
			l = strings.Repeat(l, 1+d.below(63))
		}
		row = append(row, l)
	}
	return wire(row...)
}

// P7.1 to P7.3: long rows of calls, beyond 2^14 and to the end of the room, held against the model, and all names read again.
func TestLongRowsOfCalls(t *testing.T) {
	for seed := range 12 {
		d := &draws{uint32(seed)}
		p, m := packer(t, most-seed), newModel(most-seed)
		type at struct {
			n         api.Name
			from, end int
		}
		var put []at
		for m.e == api.OK {
			from := len(m.text)
			var got, want api.Errno
			switch kind := d.below(20); {
			case kind < 10:
				n := d.name()
				got, want = p.Name(n), m.name(n)
				if want == api.OK {
					put = append(put, at{n, from, len(m.text)})
				}
			case kind < 13:
				n := d.name()
				got, want = p.Plain(n), m.plain(n)
				if want == api.OK {
					put = append(put, at{n, from, len(m.text)})
				}
			case kind < 15:
				s := strings.Repeat("\xc0", d.below(400))
				got, want = p.Put(s), m.put(s)
			case kind < 16:
				got, want = p.Number(uint32(kind), 4), m.put("\x00\x00\x00\x0f")
			case kind < 18:
				place, e := p.Begin()
				other, f := m.begin()
				if place != other {
					t.Fatalf("Begin: %d, not %d", place, other)
				}
				got, want = e, f
			default:
				place := nowhere
				if len(m.open) > 0 {
					place = m.open[max(0, len(m.open)-1-d.below(2))]
				}
				got, want = p.End(place), m.end(place)
			}
			if got != want || p.Len() != len(m.text) {
				t.Fatalf("behind %d octets: %d, %d octets, not %d, %d octets", from, got, p.Len(), want, len(m.text))
			}
		}
		checkStands(t, "a long row", p, m.text, m.e)
		checkStuck(t, p)
		for _, a := range put {
			if n, end, good := read(p.Text(), a.from); n != a.n || end != a.end || !good {
				t.Fatalf("%s at %d is read as %s, till %d", short(string(a.n)), a.from, short(string(n)), end)
			}
		}
	}
}

// P7.1 and P7.2: each row of four calls, in each room, held against the model.
func TestEachRowOfCalls(t *testing.T) {
	name := func(s string) func(*pack.Packer, *model) bool {
		return func(p *pack.Packer, m *model) bool { return p.Name(dots(s)) == m.name(dots(s)) }
	}
	end := func(at int) func(*pack.Packer, *model) bool {
		return func(p *pack.Packer, m *model) bool { return p.End(at) == m.end(at) }
	}
	calls := []func(*pack.Packer, *model) bool{
		name("a.b"), name("b"), name("c.a.b"), name("B"), name(""),
		func(p *pack.Packer, m *model) bool { return p.Name("\x02a") == m.name("\x02a") },
		func(p *pack.Packer, m *model) bool { return p.Plain(dots("a.b")) == m.plain(dots("a.b")) },
		func(p *pack.Packer, m *model) bool { return p.Number(258, 2) == m.put("\x01\x02") },
		func(p *pack.Packer, m *model) bool {
			at, e := p.Begin()
			other, f := m.begin()
			return at == other && e == f
		},
		end(0), end(2), end(5),
	}
	const length = 4
	rows := 1
	for range length {
		rows *= len(calls)
	}
	for row := range rows {
		for _, room := range []int{3, 6, 9, 40} {
			p, m := pack.New(room), newModel(room)
			for i, rest := 0, row; i < length; i, rest = i+1, rest/len(calls) {
				if !calls[rest%len(calls)](p, m) || p.Len() != len(m.text) || p.Err() != m.e || p.Text() != m.text {
					t.Fatalf("call %d of row %d in room of %d is answered otherwise: %q, %d, not %q, %d", i, row, room, p.Text(), p.Err(), m.text, m.e)
				}
			}
		}
	}
}

// Packers don't know of each other.
func TestPackersStandAlone(t *testing.T) {
	p, q := packer(t, 20), packer(t, 5)
	names(t, p, "a.b")
	at := begin(t, p)
	if e := q.End(at); e != api.ErrState {
		t.Errorf("End of what another one began: %d", e)
	}
	names(t, q, "a.b")
	checkStands(t, "the other one", q, "\x01a\x01b\x00", api.OK)
	if e := q.Put("x"); e != api.ErrLong {
		t.Errorf("Put in no room: %d", e)
	}
	names(t, p, "a.b")
	ok(t, "End", p.End(at))
	checkStands(t, "the first one", p, "\x01a\x01b\x00\x00\x02\xc0\x00", api.OK)
}

// Rule 7: packers that nobody made, and the ones they are copies of.
func TestPackersThatNobodyMade(t *testing.T) {
	p, failed := packer(t, 20), packer(t, 3)
	names(t, p, "a.b")
	at := begin(t, p)
	names(t, failed, "a")
	if e := failed.Put("x"); e != api.ErrLong {
		t.Errorf("Put in no room: %d", e)
	}
	copied, copiedFailed, again := *p, *failed, *p
	again2 := again
	for what, none := range map[string]*pack.Packer{
		"nil": nil, "a zero one": {}, "a new one": new(pack.Packer), "a copy": &copied, "a copy of one that failed": &copiedFailed, "a copy's copy": &again2,
	} {
		for range 2 {
			for _, n := range append(goods(), "\x00", "\x02a", small(255, "a")) {
				if e := none.Name(n); e != api.ErrNil {
					t.Errorf("%s: Name of %s: %d", what, short(string(n)), e)
				}
				if e := none.Plain(n); e != api.ErrNil {
					t.Errorf("%s: Plain of %s: %d", what, short(string(n)), e)
				}
			}
			for _, n := range []int{math.MinInt, -1, 0, 1, 2, 4, 5, math.MaxInt} {
				for _, v := range []uint32{0, 1, 256, math.MaxUint32} {
					if e := none.Number(v, n); e != api.ErrNil {
						t.Errorf("%s: Number(%d, %d): %d", what, v, n, e)
					}
				}
			}
			for _, s := range []string{"", "a", strings.Repeat("a", 70000)} {
				if e := none.Put(s); e != api.ErrNil {
					t.Errorf("%s: Put of %s: %d", what, short(s), e)
				}
			}
			if place, e := none.Begin(); place != 0 || e != api.ErrNil {
				t.Errorf("%s: Begin: %d, %d", what, place, e)
			}
			for _, place := range []int{math.MinInt, -1, 0, at, 65535, math.MaxInt} {
				if e := none.End(place); e != api.ErrNil {
					t.Errorf("%s: End(%d): %d", what, place, e)
				}
			}
			checkStands(t, what, none, "", api.ErrNil)
		}
	}
	checkStands(t, "the one that failed", failed, "\x01a\x00", api.ErrLong)
	names(t, p, "a.b")
	ok(t, "End", p.End(at))
	checkStands(t, "the one that was made", p, "\x01a\x01b\x00\x00\x02\xc0\x00", api.OK)
}
