package rdata_test

import (
	"fmt"
	"math"
	"reflect"
	"slices"
	"strings"
	"testing"

	"nameplate/addr"
	"nameplate/api"
	"nameplate/name"
	"nameplate/pack"
	"nameplate/rdata"
	"nameplate/unpack"
)

const (
	mostType   = 65535
	mostOctets = 65535
	mostText   = 255
	reach      = 16384 // 2^14: no pointer leads there
)

// The types that are told, and others, 256 and those behind it among them: a type isn't cut to an octet.
var told = []int{1, 2, 5, 6, 12, 15, 16, 28, 33}

var others = []int{0, 3, 4, 7, 11, 13, 14, 17, 27, 29, 32, 34, 40, 41, 42, 255, 256, 257, 258, 262, 272, 4096, 65534, 65535}

func types() []int { return slices.Concat(told, others) }

var noTypes = []int{math.MinInt, math.MinInt32, -65535, -2, -1, 65536, 65537, 65538, 65552, 1 << 20, math.MaxInt32, 1 << 32, 1<<32 + 1, 1<<32 + 16, math.MaxInt}

// layout is what a type has, a letter a part, in order: 4 and 6 an elder and a newer address; n and p Name with pointers and without; m Mail; s and l the next number of 16 and of 32 bits; t the texts; r Raw.
func layout(t int) string {
	switch t {
	case 1:
		return "4"
	case 2, 5, 12:
		return "n"
	case 6:
		return "nmlllll"
	case 15:
		return "sn"
	case 16:
		return "t"
	case 28:
		return "6"
	case 33:
		return "sssp"
	}
	return "r"
}

// wire is the name of labels, put together without a look at whether they may be.
func wire(labels ...string) api.Name {
	var row []byte
	for _, l := range labels {
		row = append(append(row, byte(len(l))), l...)
	}
	return api.Name(row)
}

// dots is the name whose labels stand in s with dots between.
func dots(s string) api.Name { return wire(strings.Split(s, ".")...) }

// great is labels as long as can be, whose name has n octets, from 194 to 256.
func great(n int) api.Name {
	full := strings.Repeat("B", 63)
	return wire(full, full, full, strings.Repeat("b", n-193))
}

// many is n texts, all alike.
func many(s string, n int) []string { return slices.Repeat([]string{s}, n) }

// number is a number as n octets.
func number(v uint32, n int) string {
	all := []byte{byte(v >> 24), byte(v >> 16), byte(v >> 8), byte(v)}
	return string(all[4-n:])
}

// sample is data that may be, and their octets without pointers.
type sample struct {
	t int
	d api.Data
	s string
}

func (c sample) String() string { return fmt.Sprintf("%s %s", rdata.Text(c.t), short(c.s)) }

// short is a text as far as a row of the tests' words has room for it.
func short(s string) string {
	if len(s) > 80 {
		return fmt.Sprintf("%q .. %q (%d)", s[:40], s[len(s)-40:], len(s))
	}
	return fmt.Sprintf("%q", s)
}

// show is data, as far as a row of the tests' words has room for them.
func show(d api.Data) string {
	s := fmt.Sprintf("%#v", d)
	return s[:min(len(s), 300)]
}

func newer(hi, lo uint64) api.Addr { return api.Addr{Six: true, Hi: hi, Lo: lo} }

func addresses() []sample {
	return []sample{
		{1, api.Data{}, "\x00\x00\x00\x00"},
		{1, api.Data{Addr: addr.Four(1, 2, 3, 4)}, "\x01\x02\x03\x04"},
		{1, api.Data{Addr: addr.Four(192, 0, 64, 255)}, "\xc0\x00\x40\xff"},
		{1, api.Data{Addr: addr.Four(255, 255, 255, 255)}, "\xff\xff\xff\xff"},
		{28, api.Data{Addr: newer(0, 0)}, strings.Repeat("\x00", 16)},
		{28, api.Data{Addr: newer(0, 0x01020304)}, strings.Repeat("\x00", 12) + "\x01\x02\x03\x04"},
		{28, api.Data{Addr: newer(0x0102030405060708, 0x090a0b0c0d0e0f10)}, "\x01\x02\x03\x04\x05\x06\x07\x08\x09\x0a\x0b\x0c\x0d\x0e\x0f\x10"},
		{28, api.Data{Addr: newer(math.MaxUint64, math.MaxUint64)}, strings.Repeat("\xff", 16)},
	}
}

// goods is a row of names that may be, within each of which no rest stands twice.
func goods() []api.Name {
	return []api.Name{"", dots("a"), dots("A"), dots("a.b"), dots("www.Example.COM"), wire("\x00", "\xc0\x00"), wire(".", "*"), wire(strings.Repeat("x", 63)), great(253), great(254)}
}

// named is samples of names, and of numbers beside them.
func named() []sample {
	var row []sample
	for _, n := range goods() {
		s := string(n) + "\x00"
		for _, t := range []int{2, 5, 12} {
			row = append(row, sample{t, api.Data{Name: n}, s})
		}
		for _, v := range []uint32{0, 1, 10, 256, 65535} {
			row = append(row, sample{15, api.Data{Nums: [5]uint32{v}, Name: n}, number(v, 2) + s})
			row = append(row, sample{33, api.Data{Nums: [5]uint32{v, 258, 65535}, Name: n}, number(v, 2) + "\x01\x02\xff\xff" + s})
			row = append(row, sample{33, api.Data{Nums: [5]uint32{0, v, 0}, Name: n}, "\x00\x00" + number(v, 2) + "\x00\x00" + s})
			row = append(row, sample{33, api.Data{Nums: [5]uint32{0, 1, v}, Name: n}, "\x00\x00\x00\x01" + number(v, 2) + s})
		}
	}
	return append(row, authorities()...)
}

// authorities is samples of SOA, in which no name has a rest of the other.
func authorities() []sample {
	var row []sample
	for _, c := range []struct{ n, m api.Name }{
		{"", ""}, {"", dots("m")}, {dots("n"), ""}, {dots("ns.a"), dots("Host.B")}, {great(254), dots("m")}, {dots("n"), great(254)},
	} {
		names := string(c.n) + "\x00" + string(c.m) + "\x00"
		for _, v := range []uint32{0, 1, 65535, 65536, 1<<31 - 1, 1 << 31, math.MaxUint32} {
			for i := range 5 {
				nums := [5]uint32{0x01020304, 5, 0x10000, 0xffffffff, 0xc0000000}
				nums[i] = v
				s := names
				for _, n := range nums {
					s += number(n, 4)
				}
				row = append(row, sample{6, api.Data{Name: c.n, Mail: c.m, Nums: nums}, s})
			}
		}
	}
	return row
}

func texts() []sample {
	var row []sample
	for _, c := range [][]string{
		{""}, {"a"}, {"A"}, {"", ""}, {"a", ""}, {"", "a"}, {"a", "", "bc"}, {"\x00", "\xc0\x00", "é"}, many("", 300), many("", mostOctets), {strings.Repeat("x", 254)},
		{strings.Repeat("x", mostText)}, many(strings.Repeat("\xff", mostText), 2), append(many(strings.Repeat("\x00", mostText), 255), strings.Repeat("y", 254)),
	} {
		s := ""
		for _, text := range c {
			s += string([]byte{byte(len(text))}) + text
		}
		row = append(row, sample{16, api.Data{Texts: c}, s})
	}
	return row
}

func raws() []sample {
	var row []sample
	for _, t := range others {
		for _, s := range []string{"", "\x00", "\xc0\x00", "a", "\x01\x02\x03\x04", "\x02a", strings.Repeat("r", mostOctets)} {
			row = append(row, sample{t, api.Data{Raw: s}, s})
		}
	}
	return row
}

func samples() []sample { return slices.Concat(addresses(), named(), texts(), raws()) }

// leastOf is data of a type with as little as may be.
func leastOf(t int) api.Data {
	var d api.Data
	d.Addr.Six = strings.Contains(layout(t), "6")
	if strings.Contains(layout(t), "t") {
		d.Texts = []string{""}
	}
	return d
}

// like tells whether data are the same; a nil list and an empty one are.
func like(a, b api.Data) bool {
	if len(a.Texts) == 0 && len(b.Texts) == 0 {
		a.Texts, b.Texts = nil, nil
	}
	return reflect.DeepEqual(a, b)
}

// size is how many octets data that may be have, and those of which only the sum is too great.
func size(t int, d api.Data) int {
	sum := 0
	for _, part := range layout(t) {
		switch part {
		case '4', 'l':
			sum += 4
		case '6':
			sum += 16
		case 's':
			sum += 2
		case 'n', 'p':
			sum += len(d.Name) + 1
		case 'm':
			sum += len(d.Mail) + 1
		case 't':
			for _, s := range d.Texts {
				sum += 1 + len(s)
			}
		case 'r':
			sum += len(d.Raw)
		}
	}
	return sum
}

// isArg tells whether Check names ErrArg, by the chapter's words alone.
func isArg(t int, d api.Data) bool {
	if t < 0 || t > mostType {
		return true
	}
	l := layout(t)
	elder, six := strings.Contains(l, "4"), strings.Contains(l, "6")
	switch {
	case elder && (d.Addr.Six || d.Addr.Hi != 0 || d.Addr.Lo >= 1<<32),
		six && !d.Addr.Six,
		!elder && !six && d.Addr != api.Addr{},
		!strings.ContainsAny(l, "np") && d.Name != "",
		!strings.Contains(l, "m") && d.Mail != "",
		strings.Contains(l, "t") != (len(d.Texts) > 0),
		!strings.Contains(l, "r") && d.Raw != "":
		return true
	}
	for i, v := range d.Nums {
		switch {
		case i < strings.Count(l, "l"):
		case i < strings.Count(l, "s"):
			if v > 65535 {
				return true
			}
		case v != 0:
			return true
		}
	}
	return false
}

// check is what Check and Size should answer, by the chapter's words alone.
func check(t int, d api.Data) (api.Errno, int) {
	if isArg(t, d) {
		return api.ErrArg, 0
	}
	for _, n := range []api.Name{d.Name, d.Mail} {
		if e := name.Check(n); e != api.OK {
			return e, 0
		}
	}
	for _, s := range d.Texts {
		if len(s) > mostText {
			return api.ErrLong, 0
		}
	}
	sum := size(t, d)
	if sum > mostOctets {
		return api.ErrLong, sum
	}
	return api.OK, sum
}

// putBy puts data that may be by the calls of pack, and answers the first error.
func putBy(p *pack.Packer, t int, d api.Data) api.Errno {
	var errs []api.Errno
	next := 0
	for _, part := range layout(t) {
		switch part {
		case '4', '6':
			s, _ := addr.Octets(d.Addr)
			errs = append(errs, p.Put(s))
		case 's', 'l':
			errs = append(errs, p.Number(d.Nums[next], map[rune]int{'s': 2, 'l': 4}[part]))
			next++
		case 'n':
			errs = append(errs, p.Name(d.Name))
		case 'm':
			errs = append(errs, p.Name(d.Mail))
		case 'p':
			errs = append(errs, p.Plain(d.Name))
		case 't':
			for _, s := range d.Texts {
				errs = append(errs, p.Number(uint32(len(s)), 1), p.Put(s))
			}
		case 'r':
			errs = append(errs, p.Put(d.Raw))
		}
	}
	for _, e := range errs {
		if e != api.OK {
			return e
		}
	}
	return api.OK
}

// reading is Read by the chapter's words alone, under way.
type reading struct {
	s       string
	at, end int
	next    int // of the numbers
	d       api.Data
	e       api.Errno
}

// take is the next n octets, or ErrMore.
func (r *reading) take(n int) string {
	if r.e == api.OK && r.end-r.at < n {
		r.e = api.ErrMore
	}
	if r.e != api.OK {
		return ""
	}
	r.at += n
	return r.s[r.at-n : r.at]
}

// value is the number that octets are.
func value(s string) uint64 {
	v := uint64(0)
	for _, c := range []byte(s) {
		v = v*256 + uint64(c)
	}
	return v
}

func (r *reading) name(read func(string, int) (api.Name, int, api.Errno)) api.Name {
	if r.e != api.OK {
		return ""
	}
	n, end, e := read(r.s, r.at)
	if e == api.OK && end > r.end {
		e = api.ErrMore
	}
	r.at, r.e = end, e
	return n
}

func (r *reading) part(part rune) {
	switch part {
	case '4':
		r.d.Addr = api.Addr{Lo: value(r.take(4))}
	case '6':
		s := r.take(16)
		if r.e == api.OK {
			r.d.Addr = newer(value(s[:8]), value(s[8:]))
		}
	case 's':
		r.d.Nums[r.next] = uint32(value(r.take(2)))
		r.next++
	case 'l':
		r.d.Nums[r.next] = uint32(value(r.take(4)))
		r.next++
	case 'n':
		r.d.Name = r.name(unpack.Name)
	case 'm':
		r.d.Mail = r.name(unpack.Name)
	case 'p':
		r.d.Name = r.name(unpack.Plain)
	case 't':
		for r.e == api.OK && (r.at < r.end || r.d.Texts == nil) {
			r.d.Texts = append(r.d.Texts, r.take(int(value(r.take(1)))))
		}
	case 'r':
		r.d.Raw = r.take(r.end - r.at)
	}
}

// readBy is what Read should answer.
func readBy(s string, at, end, t int) (api.Data, api.Errno) {
	if at < 0 || at > end || end > len(s) || t < 0 || t > mostType {
		return api.Data{}, api.ErrArg
	}
	r := reading{s: s, at: at, end: end}
	for _, part := range layout(t) {
		r.part(part)
	}
	if r.e == api.OK && (r.at < end || size(t, r.d) > mostOctets) {
		r.e = api.ErrBad
	}
	if r.e != api.OK {
		return api.Data{}, r.e
	}
	return r.d, api.OK
}

// wantRead holds Read against what it should answer.
func wantRead(t *testing.T, s string, at, end, typ int, d api.Data, e api.Errno) {
	t.Helper()
	got, err := rdata.Read(s, at, end, typ)
	if err != e || !like(got, d) {
		t.Errorf("Read of %s from %d to %d by %s: %s, error %d; not %s, error %d", short(s), at, end, rdata.Text(typ), show(got), err, show(d), e)
	}
}

// wantModel holds Read against the model.
func wantModel(t *testing.T, s string, at, end, typ int) {
	t.Helper()
	d, e := readBy(s, at, end, typ)
	wantRead(t, s, at, end, typ, d, e)
}

// wantCheck holds Check and Size against what they should answer.
func wantCheck(t *testing.T, typ int, d api.Data, e api.Errno, n int) {
	t.Helper()
	if got := rdata.Check(typ, d); got != e {
		t.Errorf("Check of %d: error %d, not %d: %s", typ, got, e, show(d))
	}
	if got := rdata.Size(typ, d); got != n {
		t.Errorf("Size of %d: %d, not %d: %s", typ, got, n, show(d))
	}
}

// wantPut has a new packer of so much room put data, and answers it.
func wantPut(t *testing.T, most, typ int, d api.Data, e api.Errno) *pack.Packer {
	t.Helper()
	p := pack.New(most)
	if got := rdata.Put(p, typ, d); got != e {
		t.Errorf("Put of %d into %d octets: error %d, not %d: %s", typ, most, got, e, show(d))
	}
	return p
}

// The chapter's examples.
func TestExamples(t *testing.T) {
	if n := rdata.Size(api.TypeMX, api.Data{Nums: [5]uint32{10}, Name: dots("a.b")}); n != 7 {
		t.Error(n)
	}
	wantRead(t, "\x01\x02\x03\x04", 0, 4, api.TypeA, api.Data{Addr: addr.Four(1, 2, 3, 4)}, api.OK)
}

// P9.1 and P9.2: each type, checked, sized, put without a name that stands ahead, and read.
func TestSamples(t *testing.T) {
	for _, c := range samples() {
		wantCheck(t, c.t, c.d, api.OK, len(c.s))
		if p := wantPut(t, mostOctets, c.t, c.d, api.OK); p.Text() != c.s || p.Err() != api.OK {
			t.Errorf("%v is put as %s", c, short(p.Text()))
		}
		wantRead(t, c.s, 0, len(c.s), c.t, c.d, api.OK)
		if t.Failed() {
			t.Fatal(c)
		}
	}
}

// P9.2: the octets of each type, read by each other one.
func TestReadByOtherTypes(t *testing.T) {
	for _, c := range samples() {
		if len(c.s) > 600 {
			continue
		}
		for _, typ := range types() {
			wantModel(t, c.s, 0, len(c.s), typ)
		}
	}
}

// P9.1: every field that a type hasn't is nought, whatever else is right.
func TestFieldsThatATypeHasNot(t *testing.T) {
	fields := []struct {
		parts string // those of a layout that have it
		set   func(d *api.Data)
	}{
		{"46", func(d *api.Data) { d.Addr.Lo = 1 }},
		{"6", func(d *api.Data) { d.Addr.Hi = 1 }},
		{"6", func(d *api.Data) { d.Addr.Six = true }},
		{"np", func(d *api.Data) { d.Name = dots("a") }},
		{"m", func(d *api.Data) { d.Mail = dots("a") }},
		{"t", func(d *api.Data) { d.Texts = []string{""} }},
		{"t", func(d *api.Data) { d.Texts = []string{"a", "b"} }},
		{"r", func(d *api.Data) { d.Raw = "\x00" }},
	}
	for _, typ := range types() {
		least := leastOf(typ)
		wantCheck(t, typ, least, api.OK, size(typ, least))
		for _, f := range fields {
			d := least
			f.set(&d)
			if strings.ContainsAny(layout(typ), f.parts) {
				wantCheck(t, typ, d, api.OK, size(typ, d))
			} else {
				wantCheck(t, typ, d, api.ErrArg, 0)
			}
		}
	}
}

// P9.1: the numbers that there are, and their room; all others are nought.
func TestNumbers(t *testing.T) {
	for _, typ := range types() {
		l, d := layout(typ), leastOf(typ)
		for i := range d.Nums {
			greatest := uint32(0)
			switch {
			case i < strings.Count(l, "s"):
				greatest = 65535
			case i < strings.Count(l, "l"):
				greatest = math.MaxUint32
			}
			for _, v := range []uint32{0, 1, 255, 256, 65535, 65536, 65537, 1 << 24, 1 << 31, math.MaxUint32} {
				d.Nums = [5]uint32{}
				d.Nums[i] = v
				if v <= greatest {
					wantCheck(t, typ, d, api.OK, size(typ, d))
				} else {
					wantCheck(t, typ, d, api.ErrArg, 0)
				}
			}
		}
	}
}

// P9.1: addresses of the other kind, and those that may not be.
func TestAddressesThatMayNotBe(t *testing.T) {
	for _, c := range []struct {
		t int
		a api.Addr
		e api.Errno
	}{
		{1, api.Addr{Lo: math.MaxUint32}, api.OK}, {1, api.Addr{Lo: math.MaxUint32 + 1}, api.ErrArg}, {1, api.Addr{Lo: math.MaxUint64}, api.ErrArg}, {1, api.Addr{Hi: 1}, api.ErrArg},
		{1, api.Addr{Hi: 1, Lo: 1}, api.ErrArg}, {1, newer(0, 0), api.ErrArg}, {1, newer(0, 1), api.ErrArg}, {1, newer(1, 0), api.ErrArg},
		{28, newer(0, 0), api.OK}, {28, newer(0, math.MaxUint64), api.OK}, {28, newer(math.MaxUint64, 0), api.OK},
		{28, api.Addr{}, api.ErrArg}, {28, addr.Four(1, 2, 3, 4), api.ErrArg}, {28, api.Addr{Hi: 1}, api.ErrArg}, {28, api.Addr{Lo: 1 << 32}, api.ErrArg},
	} {
		n := 0
		if c.e == api.OK {
			n = size(c.t, api.Data{})
		}
		wantCheck(t, c.t, api.Data{Addr: c.a}, c.e, n)
	}
}

// P9.1: names that may not be, of each type that has one.
func TestNamesThatMayNotBe(t *testing.T) {
	for _, c := range []struct {
		n api.Name
		e api.Errno
	}{
		{"\x00", api.ErrBad}, {"\x01a\x00", api.ErrBad}, {"\x02a", api.ErrBad}, {"a", api.ErrBad}, {"\xc0\x00", api.ErrBad}, {wire(strings.Repeat("a", 64)), api.ErrBad}, {wire("a", "", "b"), api.ErrBad},
		{great(255), api.ErrLong}, {great(256), api.ErrLong}, {api.Name(strings.Repeat("\x00", 255)), api.ErrLong}, {api.Name(strings.Repeat("\x00", 70000)), api.ErrLong},
	} {
		for _, typ := range []int{2, 5, 6, 12, 15, 33} {
			wantCheck(t, typ, api.Data{Name: c.n}, c.e, 0)
		}
		wantCheck(t, 6, api.Data{Mail: c.n}, c.e, 0)
		wantCheck(t, 6, api.Data{Name: dots("a"), Mail: c.n, Nums: [5]uint32{math.MaxUint32}}, c.e, 0)
		for _, typ := range []int{2, 15, 33} {
			wantCheck(t, typ, api.Data{Mail: c.n}, api.ErrArg, 0)
		}
		for _, typ := range []int{1, 16, 28, 41, 0} {
			wantCheck(t, typ, api.Data{Addr: api.Addr{Six: typ == 28}, Name: c.n}, api.ErrArg, 0)
		}
	}
}

// P9.1: ErrArg ahead of a name's error ahead of a text's; Name's ahead of Mail's.
func TestWhichErrorOfCheckComesFirst(t *testing.T) {
	bad, long := api.Name("\x00"), great(255)
	over := strings.Repeat("x", mostText+1)
	for _, c := range []struct {
		t int
		d api.Data
		e api.Errno
	}{
		{6, api.Data{Name: bad, Mail: long}, api.ErrBad},
		{6, api.Data{Name: long, Mail: bad}, api.ErrLong},
		{6, api.Data{Name: long, Mail: bad, Raw: "x"}, api.ErrArg},
		{6, api.Data{Name: bad, Mail: long, Texts: []string{over}}, api.ErrArg},
		{6, api.Data{Mail: bad, Addr: addr.Four(0, 0, 0, 1)}, api.ErrArg},
		{15, api.Data{Name: bad, Nums: [5]uint32{65535}}, api.ErrBad},
		{15, api.Data{Name: bad, Nums: [5]uint32{65536}}, api.ErrArg},
		{15, api.Data{Name: long, Nums: [5]uint32{65536}}, api.ErrArg},
		{15, api.Data{Name: long, Nums: [5]uint32{0, 1}}, api.ErrArg},
		{15, api.Data{Name: bad, Nums: [5]uint32{0, 0, 0, 0, 1}}, api.ErrArg},
		{33, api.Data{Name: long, Nums: [5]uint32{0, 0, 65535}}, api.ErrLong},
		{33, api.Data{Name: long, Nums: [5]uint32{0, 0, 65536}}, api.ErrArg},
		{33, api.Data{Name: bad, Nums: [5]uint32{0, 0, 0, 1}}, api.ErrArg},
		{33, api.Data{Name: bad, Mail: long}, api.ErrArg},
		{2, api.Data{Name: bad, Mail: long}, api.ErrArg},
		{2, api.Data{Name: long, Raw: "x"}, api.ErrArg},
		{5, api.Data{Name: bad, Nums: [5]uint32{1}}, api.ErrArg},
		{12, api.Data{Name: bad, Texts: []string{""}}, api.ErrArg},
		{16, api.Data{Texts: []string{over}, Raw: "x"}, api.ErrArg},
		{16, api.Data{Texts: []string{over}, Name: long}, api.ErrArg},
		{16, api.Data{Texts: []string{over}, Nums: [5]uint32{0, 0, 0, 0, 1}}, api.ErrArg},
		{16, api.Data{Texts: many("", 65536), Mail: bad}, api.ErrArg},
		{41, api.Data{Raw: strings.Repeat("x", 65536), Name: bad}, api.ErrArg},
		{41, api.Data{Raw: strings.Repeat("x", 65536), Texts: []string{over}}, api.ErrArg},
		{28, api.Data{Name: bad}, api.ErrArg},
		{1, api.Data{Addr: newer(0, 0), Name: bad}, api.ErrArg},
	} {
		wantCheck(t, c.t, c.d, c.e, 0)
	}
	for _, typ := range noTypes {
		for _, d := range []api.Data{{}, {Name: bad}, {Name: long}, {Texts: []string{"a"}}, {Texts: []string{over}}, {Raw: strings.Repeat("x", 65536)}, {Raw: "x"}} {
			wantCheck(t, typ, d, api.ErrArg, 0)
		}
	}
}

// P9.1: texts of no octets, of as many as can be and of more; none; too many octets alone, and all together.
func TestTextsThatMayNotBe(t *testing.T) {
	full, over := strings.Repeat("x", mostText), strings.Repeat("x", mostText+1)
	for _, c := range []struct {
		row []string
		e   api.Errno
		n   int
	}{
		{nil, api.ErrArg, 0}, {[]string{}, api.ErrArg, 0}, {make([]string, 0, 4), api.ErrArg, 0},
		{[]string{""}, api.OK, 1}, {[]string{full}, api.OK, 256}, {[]string{over}, api.ErrLong, 0}, {[]string{strings.Repeat("x", 70000)}, api.ErrLong, 0},
		{[]string{full, over}, api.ErrLong, 0}, {[]string{over, full}, api.ErrLong, 0}, {[]string{"", "", over}, api.ErrLong, 0},
		{many(full, 255), api.OK, 65280}, {append(many(full, 255), full[:254]), api.OK, 65535}, {append(many(full, 255), full[:253], ""), api.OK, 65535},
		{many(full, 256), api.ErrLong, 65536}, {append(many(full, 255), full[:254], ""), api.ErrLong, 65536}, {append(many(full, 255), full[:253], "a"), api.ErrLong, 65536},
		{many(full, 257), api.ErrLong, 65792}, {many(full, 1000), api.ErrLong, 256000}, {append(many(full, 256), over), api.ErrLong, 0}, {append([]string{over}, many(full, 256)...), api.ErrLong, 0},
		{many("", 65535), api.OK, 65535}, {many("", 65536), api.ErrLong, 65536}, {many("", 200000), api.ErrLong, 200000},
	} {
		wantCheck(t, 16, api.Data{Texts: c.row}, c.e, c.n)
		wantPut(t, mostOctets, 16, api.Data{Texts: c.row}, c.e)
	}
	for _, typ := range others {
		for _, n := range []int{0, 1, 255, 256, 65534, 65535} {
			wantCheck(t, typ, api.Data{Raw: strings.Repeat("x", n)}, api.OK, n)
		}
		for _, n := range []int{65536, 65537, 131071, 1 << 20} {
			wantCheck(t, typ, api.Data{Raw: strings.Repeat("x", n)}, api.ErrLong, n)
		}
	}
}

// each tells data of all sorts, each part right and wrong beside each other's.
func each(tell func(api.Data)) {
	full := strings.Repeat("x", mostText)
	for _, a := range []api.Addr{{}, {Lo: 1}, {Lo: 1 << 32}, {Hi: 1}, newer(0, 0), newer(1, 1)} {
		for _, n := range []api.Name{"", dots("a.b"), "\x00", great(255)} {
			for _, m := range []api.Name{"", dots("c.b"), "\x02", great(256)} {
				for _, nums := range [][5]uint32{{}, {1}, {65536}, {0, 65535}, {0, 65536}, {1, 1, 1}, {0, 0, 65536}, {0, 0, 0, 1}, {0, 0, 0, 0, math.MaxUint32}} {
					for _, texts := range [][]string{nil, {""}, {"a", "b"}, {full + "x"}, many(full, 256)} {
						for _, raw := range []string{"", "r"} {
							tell(api.Data{Addr: a, Name: n, Mail: m, Nums: nums, Texts: texts, Raw: raw})
						}
					}
				}
			}
		}
	}
}

// P9.1 and P9.2: Check, Size and Put of each type of data of all sorts.
func TestAllSortsOfData(t *testing.T) {
	each(func(d api.Data) {
		for _, typ := range []int{-1, 0, 1, 2, 6, 15, 16, 28, 33, 41, 65536} {
			e, n := check(typ, d)
			wantCheck(t, typ, d, e, n)
			p := wantPut(t, mostOctets, typ, d, e)
			other := pack.New(mostOctets)
			if e == api.OK {
				putBy(other, typ, d)
			}
			if p.Text() != other.Text() || p.Err() != api.OK {
				t.Errorf("%d: %s is put as %s", typ, show(d), short(p.Text()))
			}
		}
		if t.Failed() {
			t.FailNow()
		}
	})
}

// P9.2: names with pointers to what stands, and later ones to them; SRV's neither.
func TestPutWithPointers(t *testing.T) {
	const ahead = "\x01a\x01b\x00"
	nums := [5]uint32{1, 2, 3}
	for _, c := range []struct {
		t    int
		d    api.Data
		s    string // what is put behind a.b
		late string // what x.c.a.b, c.a.b and a.b are put as then
	}{
		{2, api.Data{Name: dots("c.a.b")}, "\x01c\xc0\x00", "\x01x\xc0\x05" + "\xc0\x05" + "\xc0\x00"},
		{5, api.Data{Name: dots("c.a.b")}, "\x01c\xc0\x00", "\x01x\xc0\x05" + "\xc0\x05" + "\xc0\x00"},
		{12, api.Data{Name: dots("c.a.b")}, "\x01c\xc0\x00", "\x01x\xc0\x05" + "\xc0\x05" + "\xc0\x00"},
		{2, api.Data{Name: dots("a.b")}, "\xc0\x00", "\x01x\x01c\xc0\x00" + "\xc0\x09" + "\xc0\x00"},
		{2, api.Data{Name: dots("A.b")}, "\x01A\xc0\x02", "\x01x\x01c\xc0\x00" + "\xc0\x0b" + "\xc0\x00"},
		{2, api.Data{}, "\x00", "\x01x\x01c\xc0\x00" + "\xc0\x08" + "\xc0\x00"},
		{15, api.Data{Nums: [5]uint32{258}, Name: dots("c.a.b")}, "\x01\x02\x01c\xc0\x00", "\x01x\xc0\x07" + "\xc0\x07" + "\xc0\x00"},
		{6, api.Data{Name: dots("c.b"), Mail: dots("c.a.b")}, "\x01c\xc0\x02" + "\x01c\xc0\x00" + strings.Repeat("\x00", 20), "\x01x\xc0\x09" + "\xc0\x09" + "\xc0\x00"},
		{6, api.Data{Name: dots("c.a.b"), Mail: dots("m.c.a.b")}, "\x01c\xc0\x00" + "\x01m\xc0\x05" + strings.Repeat("\x00", 20), "\x01x\xc0\x05" + "\xc0\x05" + "\xc0\x00"},
		{6, api.Data{Name: dots("a.b"), Mail: dots("a.b"), Nums: [5]uint32{1, 2, 3, 4, 5}}, "\xc0\x00\xc0\x00" + "\x00\x00\x00\x01\x00\x00\x00\x02\x00\x00\x00\x03\x00\x00\x00\x04\x00\x00\x00\x05", "\x01x\x01c\xc0\x00" + "\xc0\x1f" + "\xc0\x00"},
		{33, api.Data{Nums: nums, Name: dots("c.a.b")}, "\x00\x01\x00\x02\x00\x03\x01c\x01a\x01b\x00", "\x01x\x01c\xc0\x00" + "\xc0\x14" + "\xc0\x00"},
		{33, api.Data{Nums: nums, Name: dots("a.b")}, "\x00\x01\x00\x02\x00\x03\x01a\x01b\x00", "\x01x\x01c\xc0\x00" + "\xc0\x12" + "\xc0\x00"},
		{16, api.Data{Texts: []string{"a", "b", ""}}, ahead, "\x01x\x01c\xc0\x00" + "\xc0\x0c" + "\xc0\x00"},
		{41, api.Data{Raw: "\x01c" + ahead}, "\x01c" + ahead, "\x01x\x01c\xc0\x00" + "\xc0\x0e" + "\xc0\x00"},
	} {
		p := pack.New(500)
		p.Name(dots("a.b"))
		if e := rdata.Put(p, c.t, c.d); e != api.OK || p.Text() != ahead+c.s {
			t.Errorf("%s: error %d, %q, not %q", rdata.Text(c.t), e, p.Text(), ahead+c.s)
		}
		end := p.Len()
		p.Name(dots("x.c.a.b"))
		p.Name(dots("c.a.b"))
		p.Name(dots("a.b"))
		if p.Text() != ahead+c.s+c.late {
			t.Errorf("%s: %q, not %q", rdata.Text(c.t), p.Text()[end:], c.late)
		}
		wantRead(t, p.Text(), len(ahead), end, c.t, c.d, api.OK)
	}
}

// P9.2: no packer, or one that nobody made, ahead of all that is wrong with the data.
func TestPutWithoutAPacker(t *testing.T) {
	copied := *pack.New(100)
	for _, p := range []*pack.Packer{nil, {}, &copied} {
		for _, typ := range append(noTypes, types()...) {
			for _, d := range []api.Data{{}, {Name: dots("a")}, {Name: "\x00"}, {Addr: newer(0, 0)}, {Texts: []string{"a"}}, {Texts: many("", 65536)}, {Raw: "x"}} {
				if e := rdata.Put(p, typ, d); e != api.ErrNil {
					t.Fatalf("%d: error %d", typ, e)
				}
			}
		}
	}
}

// P9.2: Check's error ahead of the packer's; nothing is put then, and the packer has no error of it.
func TestPutOfDataThatMayNotBe(t *testing.T) {
	wrongs := []struct {
		t int
		d api.Data
		e api.Errno
	}{
		{-1, api.Data{}, api.ErrArg}, {65536, api.Data{}, api.ErrArg}, {1, api.Data{Addr: newer(0, 0)}, api.ErrArg}, {28, api.Data{}, api.ErrArg}, {16, api.Data{}, api.ErrArg},
		{15, api.Data{Nums: [5]uint32{65536}}, api.ErrArg}, {33, api.Data{Nums: [5]uint32{1, 1, 65536}}, api.ErrArg}, {33, api.Data{Nums: [5]uint32{1, 1, 1}, Name: "\x00"}, api.ErrBad},
		{15, api.Data{Nums: [5]uint32{1}, Name: "\x02"}, api.ErrBad}, {2, api.Data{Name: great(255)}, api.ErrLong}, {6, api.Data{Name: dots("a"), Mail: "\x00"}, api.ErrBad},
		{6, api.Data{Name: dots("a"), Mail: great(255)}, api.ErrLong}, {16, api.Data{Texts: []string{"a", strings.Repeat("x", 256)}}, api.ErrLong},
		{16, api.Data{Texts: many("", 65536)}, api.ErrLong}, {41, api.Data{Raw: strings.Repeat("x", 65536)}, api.ErrLong}, {41, api.Data{Raw: "x", Name: dots("a")}, api.ErrArg},
	}
	for _, c := range wrongs {
		p := pack.New(mostOctets)
		p.Put("ahead")
		if e := rdata.Put(p, c.t, c.d); e != c.e || p.Text() != "ahead" || p.Err() != api.OK {
			t.Errorf("%d: error %d, not %d; %s stands; error %d", c.t, e, c.e, short(p.Text()), p.Err())
		}
		if e := rdata.Put(p, 1, api.Data{Addr: addr.Four(1, 2, 3, 4)}); e != api.OK || p.Text() != "ahead\x01\x02\x03\x04" {
			t.Errorf("%d: then error %d, %s", c.t, e, short(p.Text()))
		}
		full := pack.New(2)
		full.Put("xyz")
		if e := rdata.Put(full, c.t, c.d); e != c.e || full.Err() != api.ErrLong || full.Text() != "" {
			t.Errorf("%d: with a packer that has an error: %d, not %d", c.t, e, c.e)
		}
	}
	for _, c := range samples() {
		full := pack.New(2)
		full.Put("xyz")
		if e := rdata.Put(full, c.t, c.d); e != api.ErrLong || full.Text() != "" {
			t.Fatalf("%v: with a packer that has an error: %d", c, e)
		}
	}
}

// P9.2: the packer's error, where there is too little room, and from then on.
func TestPutWithTooLittleRoom(t *testing.T) {
	for _, c := range samples() {
		if len(c.s) > 600 {
			continue
		}
		for most := range len(c.s) + 2 {
			e := api.OK
			if most < len(c.s) {
				e = api.ErrLong
			}
			p := wantPut(t, most, c.t, c.d, e)
			if p.Err() != e || !strings.HasPrefix(c.s, p.Text()) || e == api.OK && p.Text() != c.s {
				t.Fatalf("%v into %d octets: %s, error %d", c, most, short(p.Text()), p.Err())
			}
			if e != api.OK && rdata.Put(p, 41, api.Data{}) != e {
				t.Fatalf("%v into %d octets: the error doesn't stay", c, most)
			}
		}
	}
}

// P9.2: places and types that may not be, ahead of all else.
func TestReadOfPlacesThatMayNotBe(t *testing.T) {
	const s = "\x01\x02\x03\x04"
	for _, typ := range types() {
		for _, c := range []struct{ at, end int }{
			{-1, 4}, {-1, -1}, {-1, 0}, {-4, 0}, {-2, -1}, {0, -1}, {1, 0}, {2, 1}, {4, 3}, {5, 4}, {0, 5}, {1, 5}, {4, 5}, {5, 5}, {6, 5}, {5, 9},
			{math.MinInt, 4}, {math.MinInt, math.MinInt}, {0, math.MaxInt}, {math.MaxInt, math.MaxInt}, {math.MaxInt, 4}, {4, math.MaxInt}, {0, math.MinInt}, {4, math.MinInt}, {math.MinInt, math.MaxInt},
		} {
			wantRead(t, s, c.at, c.end, typ, api.Data{}, api.ErrArg)
		}
	}
	for _, typ := range noTypes {
		for at := range len(s) + 1 {
			for end := range len(s) + 1 {
				wantRead(t, s, at, end, typ, api.Data{}, api.ErrArg)
			}
		}
	}
	wantRead(t, "", 0, 0, 41, api.Data{}, api.OK)
	wantRead(t, "", 0, 0, 1, api.Data{}, api.ErrMore)
	wantRead(t, "", 0, 1, 41, api.Data{}, api.ErrArg)
	wantRead(t, "", 1, 1, 41, api.Data{}, api.ErrArg)
}

// P9.2: octets that end too early, whether others stand behind that end or none; and octets left behind the last part.
func TestReadUpToEachEnd(t *testing.T) {
	for _, c := range samples() {
		if len(c.s) > 600 || len(c.s) > 100 && c.t == 33 {
			continue
		}
		for end := range len(c.s) {
			d, e := api.Data{}, api.ErrMore
			switch layout(c.t) {
			case "r":
				d, e = api.Data{Raw: c.s[:end]}, api.OK
			case "t": // as many texts as end there
				d, e = readBy(c.s, 0, end, c.t)
			}
			wantRead(t, c.s, 0, end, c.t, d, e)
			wantRead(t, c.s[:end], 0, end, c.t, d, e)
			wantRead(t, "\x40\xc0"+c.s, 2, 2+end, c.t, d, e)
		}
		if c.t == 16 || layout(c.t) == "r" {
			continue
		}
		for _, behind := range []string{"\x00", "\x01", "\x40", "\xc0", "\xff\xff", "more"} {
			s := c.s + behind
			wantRead(t, s, 0, len(s), c.t, api.Data{}, api.ErrBad)
			wantRead(t, s, 0, len(c.s)+1, c.t, api.Data{}, api.ErrBad)
			wantRead(t, "\x00"+s, 1, len(s)+1, c.t, api.Data{}, api.ErrBad)
			wantRead(t, s, 0, len(c.s), c.t, c.d, api.OK)
		}
	}
}

// P9.2: texts up to the end, one at least.
func TestReadTexts(t *testing.T) {
	for _, c := range []struct {
		s   string
		row []string
		e   api.Errno
	}{
		{"", nil, api.ErrMore}, {"\x00", []string{""}, api.OK}, {"\x00\x00", []string{"", ""}, api.OK}, {"\x01", nil, api.ErrMore}, {"\x01a", []string{"a"}, api.OK},
		{"\x01a\x00", []string{"a", ""}, api.OK}, {"\x00\x01a", []string{"", "a"}, api.OK}, {"\x01a\x01", nil, api.ErrMore}, {"\x01a\x02b", nil, api.ErrMore}, {"\x00\x00\x01", nil, api.ErrMore},
		{"\x02a", nil, api.ErrMore}, {"\x02ab", []string{"ab"}, api.OK}, {"\x02\x01a", []string{"\x01a"}, api.OK}, {"\xff", nil, api.ErrMore}, {"\xc0\x00", nil, api.ErrMore},
		{"\xff" + strings.Repeat("x", 254), nil, api.ErrMore}, {"\xff" + strings.Repeat("x", 255), []string{strings.Repeat("x", 255)}, api.OK},
		{"\xff" + strings.Repeat("x", 256), nil, api.ErrMore}, {"\xff" + strings.Repeat("\x00", 257), []string{strings.Repeat("\x00", 255), "", ""}, api.OK},
	} {
		wantRead(t, c.s, 0, len(c.s), 16, api.Data{Texts: c.row}, c.e)
		wantRead(t, "\x07"+c.s+"abcdefg", 1, 1+len(c.s), 16, api.Data{Texts: c.row}, c.e)
	}
}

// P9.2: names by unpack: with pointers ahead of the data, and into them; SRV's without any.
func TestReadNames(t *testing.T) {
	const ahead = "\x01a\x01b\x00" // a.b at 0, b at 2, the root at 4
	noughts := strings.Repeat("\x00", 20)
	for _, c := range []struct {
		t int
		s string
		d api.Data
		e api.Errno
	}{
		{2, "\xc0\x00", api.Data{Name: dots("a.b")}, api.OK},
		{5, "\x01C\xc0\x02", api.Data{Name: dots("C.b")}, api.OK},
		{12, "\xc0\x04", api.Data{}, api.OK},
		{15, "\x00\x0a\x01c\xc0\x00", api.Data{Nums: [5]uint32{10}, Name: dots("c.a.b")}, api.OK},
		{6, "\x01n\xc0\x00\x01m\xc0\x05" + noughts, api.Data{Name: dots("n.a.b"), Mail: dots("m.n.a.b")}, api.OK},
		{6, "\xc0\x00\xc0\x02" + noughts, api.Data{Name: dots("a.b"), Mail: dots("b")}, api.OK},
		{33, "\x00\x01\x00\x02\x00\x03\x01c\x00", api.Data{Nums: [5]uint32{1, 2, 3}, Name: dots("c")}, api.OK},
		{33, "\x00\x01\x00\x02\x00\x03\xc0\x00", api.Data{}, api.ErrBad},
		{33, "\x00\x01\x00\x02\x00\x03\x01c\xc0\x00", api.Data{}, api.ErrBad},
		{33, "\x00\x01\x00\x02\x00\x03\xc0\x05", api.Data{}, api.ErrBad},
		{2, "\xc0\x05", api.Data{}, api.ErrBad}, // to itself
		{2, "\xc0\x07", api.Data{}, api.ErrBad}, // behind itself
		{2, "\x01c\xc0\x05", api.Data{}, api.ErrBad},
		{2, "\x40", api.Data{}, api.ErrBad},
		{15, "\x00\x01\x80", api.Data{}, api.ErrBad},
		{15, "\x00\x01\xc0\x05", api.Data{Nums: [5]uint32{1}}, api.OK},       // the number's own nought
		{15, "\x01a\xc0\x05", api.Data{}, api.ErrBad},                        // through the number to itself
		{15, "\x00\x01\xc0\x07", api.Data{}, api.ErrBad},                     // to itself
		{6, "\x01n\x00\x01m\xff\xff" + noughts, api.Data{}, api.ErrBad},      // Mail's
		{6, "\x40", api.Data{}, api.ErrBad},                                  // Name's
		{6, "\xc0\x05\x40" + noughts, api.Data{}, api.ErrBad},                // Name's, ahead of Mail's
		{6, "\x00\x40" + noughts, api.Data{}, api.ErrBad},                    // Mail's
		{2, string(great(255)) + "\x00", api.Data{}, api.ErrLong},            // too long
		{2, string(great(254)) + "\x00", api.Data{Name: great(254)}, api.OK}, // not yet
		{2, string(great(251)) + "\xc0\x00", api.Data{}, api.ErrLong},
		{33, "\x00\x01\x00\x02\x00\x03" + string(great(255)) + "\x00", api.Data{}, api.ErrLong},
		{6, "\x00" + string(great(255)) + "\x00" + noughts, api.Data{}, api.ErrLong},
	} {
		wantRead(t, ahead+c.s, 5, 5+len(c.s), c.t, c.d, c.e)
		wantRead(t, ahead+c.s+"\x00\x01x\x00", 5, 5+len(c.s), c.t, c.d, c.e)
	}
}

// P9.2: a name's own error, where it stands behind the end, too, ahead of that the name ends there; octets that are left, last.
func TestWhichErrorOfANameComesFirst(t *testing.T) {
	for _, c := range []struct {
		s   string
		end int
		e   api.Errno
	}{
		{"\x01a\x40", 2, api.ErrBad},
		{"\x01a\xbf", 2, api.ErrBad},
		{"\x01a\xff\xff", 2, api.ErrBad},
		{"\x01a\xff\xff", 3, api.ErrBad},
		{"\x01a\xc0", 2, api.ErrMore},
		{"\x01a\x00", 2, api.ErrMore},
		{"\x01a\x01", 2, api.ErrMore},
		{"\x01a\x01b\x00", 3, api.ErrMore},
		{string(great(255)) + "\x00", 200, api.ErrLong},
		{string(great(254)) + "\x00", 200, api.ErrMore},
		{"\x01a\x00\x40", 4, api.ErrBad},
		{"\x01a\x00\x00", 4, api.ErrBad},
	} {
		for _, typ := range []int{2, 5, 12} {
			wantRead(t, c.s, 0, c.end, typ, api.Data{}, c.e)
		}
		wantRead(t, "\x00\x01"+c.s, 0, 2+c.end, 15, api.Data{}, c.e)
		wantRead(t, "\x00\x01\x00\x02\x00\x03"+c.s, 0, 6+c.end, 33, api.Data{}, c.e)
	}
}

// P9.2: the error of the part that stands first.
func TestWhichErrorOfPartsComesFirst(t *testing.T) {
	noughts := strings.Repeat("\x00", 22)
	for _, c := range []struct {
		s   string
		end int
		t   int
		e   api.Errno
	}{
		{noughts, 22, 6, api.OK},
		{noughts, 21, 6, api.ErrMore},                    // the last number's
		{"\x00\x00\x00\x01a", 3, 6, api.ErrMore},         // the first number's
		{"\x00\x40", 2, 6, api.ErrBad},                   // Mail's, ahead of the numbers'
		{"\x40" + noughts, 1, 6, api.ErrBad},             // Name's, ahead of Mail's
		{"\x01a\x00\x01b", 5, 6, api.ErrMore},            // Mail's
		{"\x00" + noughts, 23, 6, api.ErrBad},            // one left
		{"\x00", 1, 15, api.ErrMore},                     // the number's
		{"\x00\x01\x00", 1, 15, api.ErrMore},             // the number's, whatever stands behind the end
		{"\x00\x40\x40", 1, 15, api.ErrMore},             // the number's, ahead of the name's
		{"\x00\x40\x40", 3, 15, api.ErrBad},              // the name's
		{"\x00\x01\x00\x01\x00\x40", 5, 33, api.ErrMore}, // the last number's
	} {
		wantRead(t, c.s, 0, c.end, c.t, api.Data{}, c.e)
	}
}

// P9.2: octets and texts as many as can be, and one more, which is bad, but behind each error of theirs.
func TestReadOfTooManyOctets(t *testing.T) {
	over := strings.Repeat("\x00", 65536)
	wantRead(t, over, 0, 65535, 16, api.Data{Texts: many("", 65535)}, api.OK)
	wantRead(t, over, 1, 65536, 41, api.Data{Raw: over[1:]}, api.OK)
	for _, typ := range types() {
		wantRead(t, over, 0, 65536, typ, api.Data{}, api.ErrBad)
		wantRead(t, over+over, 1, 131000, typ, api.Data{}, api.ErrBad)
	}
	wantRead(t, strings.Repeat("\x01", 65536), 0, 65536, 16, api.Data{}, api.ErrBad)
	wantRead(t, strings.Repeat("\x01", 65537), 0, 65537, 16, api.Data{}, api.ErrMore)
	wantRead(t, over+"\x01", 0, 65537, 16, api.Data{}, api.ErrMore)
}

// rows tells all rows of octets out of some, up to a length.
func rows(some string, length int, tell func(string)) {
	var grow func(string)
	grow = func(s string) {
		tell(s)
		if len(s) == length {
			return
		}
		for _, c := range []byte(some) {
			grow(s + string([]byte{c}))
		}
	}
	grow("")
}

// P9.2: all short rows, from each place up to each, by each layout.
func TestReadOfAllShortRows(t *testing.T) {
	rows("\x00\x01\x02\x40\xc0a", 4, func(s string) {
		for at := range len(s) + 1 {
			for end := at; end <= len(s); end++ {
				for _, typ := range []int{1, 2, 6, 15, 16, 28, 33, 41} {
					wantModel(t, s, at, end, typ)
				}
			}
		}
		if t.Failed() {
			t.FailNow()
		}
	})
}

// P9.2: each sample with one octet that is another one, up to its end and beside it.
func TestReadOfOctetsThatAreOthers(t *testing.T) {
	for i, c := range samples() {
		if len(c.s) > 60 || layout(c.t) == "r" || c.t == 33 && i%4 != 0 {
			continue
		}
		for at := range len(c.s) {
			for _, other := range []byte{0, 1, 2, 3, 63, 64, 191, 192, 193, 255} {
				b := []byte("\x01a\x01b\x00" + c.s + "\x01c\x00")
				b[5+at] = other
				for end := 5 + len(c.s) - 1; end <= len(b); end++ {
					wantModel(t, string(b), 5, end, c.t)
				}
			}
		}
		if t.Failed() {
			t.FailNow()
		}
	}
}

// draws is a row of numbers as good as drawn, the same each time.
type draws struct{ state uint32 }

func (d *draws) below(n int) int {
	d.state = d.state*1664525 + 1013904223
	return int(d.state>>8) % n
}

// name is one of many names whose rests are often alike, some of them long.
func (d *draws) name() api.Name {
	var row []string
	for range d.below(6) {
		l := string([]byte{"abAB"[d.below(4)]})
		if d.below(9) == 0 {
			l = strings.Repeat(l, 1+d.below(40))
		}
		row = append(row, l)
	}
	return wire(row...)
}

// text is one of many short texts.
func (d *draws) text() string {
	return strings.Repeat(string([]byte{byte(d.below(256))}), d.below(5))
}

// data is a type, and data of it that may be.
func (d *draws) data() (int, api.Data) {
	all := types()
	typ := all[d.below(len(all))]
	var v api.Data
	next := 0
	for _, part := range layout(typ) {
		switch part {
		case '4':
			v.Addr.Lo = uint64(d.below(1 << 24))
		case '6':
			v.Addr = newer(uint64(d.below(1<<24))<<40, uint64(d.below(1<<24)))
		case 'n', 'p':
			v.Name = d.name()
		case 'm':
			v.Mail = d.name()
		case 's':
			v.Nums[next] = uint32(d.below(65536))
			next++
		case 'l':
			v.Nums[next] = uint32(d.below(1<<24)) << d.below(9)
			next++
		case 't':
			for range 1 + d.below(4) {
				v.Texts = append(v.Texts, d.text())
			}
		case 'r':
			v.Raw = d.text()
		}
	}
	return typ, v
}

// P9.3: what was put is read, whatever stands around it, beyond 2^14, too; and it is put by pack's own calls.
func TestWhatWasPutIsRead(t *testing.T) {
	type stands struct {
		t       int
		d       api.Data
		at, end int
	}
	for seed := range 20 {
		d, p, other := &draws{uint32(seed)}, pack.New(20000), pack.New(20000)
		var row []stands
		for {
			typ, v := d.data()
			at := p.Len()
			e := rdata.Put(p, typ, v)
			if putBy(other, typ, v) != e || p.Text() != other.Text() {
				t.Fatalf("seed %d: %s is put as %s", seed, rdata.Text(typ), short(p.Text()[at:]))
			}
			if e != api.OK {
				break
			}
			if n := p.Len() - at; n > rdata.Size(typ, v) {
				t.Errorf("seed %d: %s in %d octets", seed, rdata.Text(typ), n)
			}
			row = append(row, stands{typ, v, at, p.Len()})
			between, n := strings.Repeat("\xc0", d.below(9)), d.name()
			for _, p := range []*pack.Packer{p, other} {
				p.Put(between)
				p.Name(n)
			}
		}
		s := p.Text()
		if len(s) < reach {
			t.Fatalf("seed %d: %d octets alone", seed, len(s))
		}
		for _, r := range row {
			wantRead(t, s, r.at, r.end, r.t, r.d, api.OK)
			wantRead(t, s[:r.end], r.at, r.end, r.t, r.d, api.OK)
			wantRead(t, s[:r.end]+"\x00\x40\xff", r.at, r.end, r.t, r.d, api.OK)
		}
		if t.Failed() {
			t.Fatalf("seed %d", seed)
		}
	}
	for _, c := range samples() {
		for _, ahead := range []string{"", "\x00", "\xc0\x00", "\x3f\x40", strings.Repeat("\xff", reach)} {
			p := pack.New(mostOctets)
			p.Put(ahead)
			if rdata.Put(p, c.t, c.d) != api.OK {
				continue
			}
			for _, behind := range []string{"", "\x00", "\x40", "\xc0", "\x01a"} {
				wantRead(t, p.Text()+behind, len(ahead), p.Len(), c.t, c.d, api.OK)
			}
		}
	}
}

// variants is data that differ from the first in one part alone.
func variants() []api.Data {
	all := func() api.Data {
		return api.Data{Addr: addr.Four(1, 2, 3, 4), Name: dots("a.b"), Mail: dots("c.d"), Nums: [5]uint32{1, 2, 3, 4, 5}, Texts: []string{"a", "bc"}, Raw: "raw"}
	}
	row := []api.Data{all()}
	for _, set := range []func(d *api.Data){
		func(d *api.Data) { d.Addr = addr.Four(1, 2, 3, 5) },
		func(d *api.Data) { d.Addr.Six = true },
		func(d *api.Data) { d.Addr.Hi = 1 },
		func(d *api.Data) { d.Addr = api.Addr{} },
		func(d *api.Data) { d.Name = dots("a.c") },
		func(d *api.Data) { d.Name = dots("A.b") },
		func(d *api.Data) { d.Name = dots("a.B") },
		func(d *api.Data) { d.Name = dots("a") },
		func(d *api.Data) { d.Name = "" },
		func(d *api.Data) { d.Name = "\x00" },
		func(d *api.Data) { d.Mail = dots("c.e") },
		func(d *api.Data) { d.Mail = dots("C.d") },
		func(d *api.Data) { d.Mail = "" },
		func(d *api.Data) { d.Name, d.Mail = d.Mail, d.Name },
		func(d *api.Data) { d.Nums[0] = 9 },
		func(d *api.Data) { d.Nums[1] = 9 },
		func(d *api.Data) { d.Nums[2] = 9 },
		func(d *api.Data) { d.Nums[3] = 9 },
		func(d *api.Data) { d.Nums[4] = 9 },
		func(d *api.Data) { d.Nums = [5]uint32{} },
		func(d *api.Data) { d.Nums[0] += 1 << 16 },
		func(d *api.Data) { d.Texts[0] = "b" },
		func(d *api.Data) { d.Texts[0] = "A" },
		func(d *api.Data) { d.Texts[1] = "bC" },
		func(d *api.Data) { d.Texts = []string{"bc", "a"} },
		func(d *api.Data) { d.Texts = []string{"ab", "c"} },
		func(d *api.Data) { d.Texts = []string{"abc"} },
		func(d *api.Data) { d.Texts = []string{"a"} },
		func(d *api.Data) { d.Texts = append(d.Texts, "") },
		func(d *api.Data) { d.Texts = nil },
		func(d *api.Data) { d.Texts = []string{""} },
		func(d *api.Data) { d.Raw = "Raw" },
		func(d *api.Data) { d.Raw = "raw\x00" },
		func(d *api.Data) { d.Raw = "ra" },
		func(d *api.Data) { d.Raw = "" },
	} {
		d := all()
		set(&d)
		row = append(row, d)
	}
	return append(row, api.Data{})
}

// P9.2: Same of data that differ in one part alone, case, too, whether they may be or not.
func TestSame(t *testing.T) {
	again := variants()
	for i, a := range variants() {
		for j, b := range again {
			if rdata.Same(a, b) != (i == j) {
				t.Errorf("Same of %s and %s: %v", show(a), show(b), i != j)
			}
		}
	}
	for _, a := range [][]string{nil, {}, make([]string, 0, 3)} {
		for _, b := range [][]string{nil, {}, make([]string, 0, 3)} {
			if !rdata.Same(api.Data{Texts: a}, api.Data{Texts: b}) {
				t.Error("no texts and no texts")
			}
		}
		if rdata.Same(api.Data{Texts: a}, api.Data{Texts: []string{""}}) || rdata.Same(api.Data{Texts: []string{""}}, api.Data{Texts: a}) {
			t.Error("no texts and one of no octets")
		}
	}
}

// P9.1: Known and Text of each type, and of what is none.
func TestKnownAndText(t *testing.T) {
	texts := map[int]string{1: "A", 2: "NS", 5: "CNAME", 6: "SOA", 12: "PTR", 15: "MX", 16: "TXT", 28: "AAAA", 33: "SRV", 41: "OPT"}
	for typ := range mostType + 1 {
		s, some := texts[typ]
		if !some {
			s = fmt.Sprintf("TYPE%d", typ)
		}
		if got := rdata.Text(typ); got != s {
			t.Errorf("Text of %d: %q", typ, got)
		}
		if got := rdata.Known(typ); got != slices.Contains(told, typ) {
			t.Errorf("Known of %d: %v", typ, got)
		}
	}
	for _, typ := range noTypes {
		if s := rdata.Text(typ); s != "" || rdata.Known(typ) {
			t.Errorf("Text of %d: %q; known: %v", typ, s, rdata.Known(typ))
		}
	}
}

// DOC.md's rule 3: what is answered is new, what is handed in stays as it is, its spare room, too.
func TestMemory(t *testing.T) {
	room := []string{"a", "", "b", "spare", "room"}
	d := api.Data{Texts: room[:3]}
	p := pack.New(100)
	rdata.Check(16, d)
	rdata.Size(16, d)
	rdata.Same(d, api.Data{Texts: slices.Clone(room[:3])})
	rdata.Same(api.Data{Texts: slices.Clone(room[:3])}, d)
	if e := rdata.Put(p, 16, d); e != api.OK || !slices.Equal(room, []string{"a", "", "b", "spare", "room"}) {
		t.Errorf("error %d; %q", e, room)
	}
	s := p.Text()
	room[0], room[2] = "X", "Y"
	if p.Text() != s || s != "\x01a\x00\x01b" {
		t.Errorf("%q, then %q", s, p.Text())
	}
	one, _ := rdata.Read(s, 0, len(s), 16)
	two, _ := rdata.Read(s, 0, len(s), 16)
	one.Texts[0] = "X"
	_ = append(one.Texts[:1], "Z")
	for i := range one.Texts[:cap(one.Texts)] {
		one.Texts[:cap(one.Texts)][i] = "W"
	}
	if !slices.Equal(two.Texts, []string{"a", "", "b"}) {
		t.Errorf("%q", two.Texts)
	}
	wantRead(t, s, 0, len(s), 16, api.Data{Texts: []string{"a", "", "b"}}, api.OK)
}
