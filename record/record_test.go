package record_test

import (
	"fmt"
	"math"
	"reflect"
	"slices"
	"strings"
	"testing"

	"nameplate/addr"
	"nameplate/api"
	"nameplate/name"
	"nameplate/pack"
	"nameplate/rdata"
	"nameplate/record"
	"nameplate/unpack"
)

const (
	mostShort  = 65535
	mostOctets = 65535
	reach      = 16384 // 2^14: no pointer leads there
)

// Numbers that may be types and classes, and numbers that may be neither.
var shorts = []int{0, 1, 2, 5, 6, 12, 15, 16, 28, 33, 41, 254, 255, 256, 257, 4096, 32767, 32768, 65534, 65535}

var noShorts = []int{math.MinInt, math.MinInt32, -65536, -65535, -2, -1, 65536, 65537, 65552, 1 << 17, math.MaxInt32, 1 << 32, 1<<32 + 1, math.MaxInt}

var ttls = []uint32{0, 1, 255, 256, 65535, 65536, 1<<24 - 1, 1 << 24, 0x01020304, math.MaxInt32, 1 << 31, math.MaxUint32}

// wire is the name of labels, put together without a look at whether they may be.
func wire(labels ...string) api.Name {
	var row []byte
	for _, l := range labels {
		row = append(append(row, byte(len(l))), l...)
	}
	return api.Name(row)
}

// dots is the name whose labels stand in s with dots between.
func dots(s string) api.Name { return wire(strings.Split(s, ".")...) }

// great is labels as long as can be, whose name has n octets, from 194 to 256.
func great(n int) api.Name {
	full := strings.Repeat("B", 63)
	return wire(full, full, full, strings.Repeat("b", n-193))
}

// number is a number as n octets.
func number[T int | uint32](v T, n int) string {
	var row []byte
	for i := range n {
		row = append(row, byte(uint64(v)>>(8*(n-1-i))))
	}
	return string(row)
}

// value is the number that octets are.
func value(s string) int {
	v := 0
	for _, c := range []byte(s) {
		v = v*256 + int(c)
	}
	return v
}

// short is a text as far as a row of the tests' words has room for it.
func short(s string) string {
	if len(s) > 80 {
		return fmt.Sprintf("%q .. %q (%d)", s[:40], s[len(s)-40:], len(s))
	}
	return fmt.Sprintf("%q", s)
}

// show is a record, as far as a row of the tests' words has room for it.
func show(r api.Record) string {
	s := fmt.Sprintf("%#v", r)
	return s[:min(len(s), 400)]
}

// kept is data of a type, and their octets without pointers. No label of theirs is an owner's.
type kept struct {
	t int
	d api.Data
	s string
}

func newer(hi, lo uint64) api.Addr { return api.Addr{Six: true, Hi: hi, Lo: lo} }

func datas() []kept {
	row := []kept{
		{1, api.Data{Addr: addr.Four(1, 2, 3, 4)}, "\x01\x02\x03\x04"},
		{1, api.Data{}, "\x00\x00\x00\x00"},
		{28, api.Data{Addr: newer(0x0102030405060708, 0xfffefdfcfbfaf9f8)}, "\x01\x02\x03\x04\x05\x06\x07\x08\xff\xfe\xfd\xfc\xfb\xfa\xf9\xf8"},
		{2, api.Data{Name: dots("p.q")}, "\x01p\x01q\x00"},
		{5, api.Data{Name: dots("P.q")}, "\x01P\x01q\x00"},
		{5, api.Data{}, "\x00"},
		{12, api.Data{Name: wire("\xc0\x00")}, "\x02\xc0\x00\x00"},
		{6, api.Data{Name: dots("p"), Mail: dots("m.q"), Nums: [5]uint32{1, 2, 3, 4, math.MaxUint32}}, "\x01p\x00\x01m\x01q\x00\x00\x00\x00\x01\x00\x00\x00\x02\x00\x00\x00\x03\x00\x00\x00\x04\xff\xff\xff\xff"},
		{15, api.Data{Nums: [5]uint32{10}, Name: dots("p.q")}, "\x00\x0a\x01p\x01q\x00"},
		{16, api.Data{Texts: []string{"x", "", "yz"}}, "\x01x\x00\x02yz"},
		{16, api.Data{Texts: []string{""}}, "\x00"},
		{33, api.Data{Nums: [5]uint32{1, 2, 65535}, Name: dots("p.q")}, "\x00\x01\x00\x02\xff\xff\x01p\x01q\x00"},
	}
	for _, t := range []int{0, 3, 41, 255, 256, 257, 65535} {
		for _, s := range []string{"", "raw", "\xc0\x00", "\x00\x00\x00\x00"} {
			row = append(row, kept{t, api.Data{Raw: s}, s})
		}
	}
	return row
}

// vast is data of as many octets as can be.
func vast() []kept {
	full := strings.Repeat("x", 255)
	texts := append(slices.Repeat([]string{full}, 255), full[:254])
	return []kept{
		{41, api.Data{Raw: strings.Repeat("r", mostOctets)}, strings.Repeat("r", mostOctets)},
		{16, api.Data{Texts: texts}, strings.Repeat("\xff"+full, 255) + "\xfe" + full[:254]},
	}
}

func owners() []api.Name {
	return []api.Name{"", dots("a"), dots("A.b"), dots("www.Example.COM"), wire("\x00", "\xc0\x0c"), great(254)}
}

// sample is a record that may be, its octets without pointers, and how many of them are its name's and its data's.
type sample struct {
	r           api.Record
	s           string
	name, datas int
}

func (c sample) String() string { return show(c.r) }

// sampleOf is the sample of an owner's data.
func sampleOf(n api.Name, class int, ttl uint32, k kept) sample {
	s := string(n) + "\x00" + number(k.t, 2) + number(class, 2) + number(ttl, 4) + number(len(k.s), 2) + k.s
	return sample{api.Record{Name: n, Type: k.t, Class: class, TTL: ttl, Data: k.d}, s, len(n) + 1, len(k.s)}
}

func samples() []sample {
	var row []sample
	for _, n := range owners() {
		for _, k := range datas() {
			row = append(row, sampleOf(n, shorts[len(row)%len(shorts)], ttls[len(row)%len(ttls)], k))
		}
	}
	return row
}

// asked is a question that may be, and its octets without pointers.
type asked struct {
	q api.Question
	s string
}

func questions() []asked {
	var row []asked
	for _, n := range owners() {
		for i, t := range shorts {
			class := shorts[len(shorts)-1-i]
			row = append(row, asked{api.Question{Name: n, Type: t, Class: class}, string(n) + "\x00" + number(t, 2) + number(class, 2)})
		}
	}
	return row
}

// like tells whether records are the same; a nil list and an empty one are.
func like(a, b api.Record) bool {
	if len(a.Data.Texts) == 0 && len(b.Data.Texts) == 0 {
		a.Data.Texts, b.Data.Texts = nil, nil
	}
	return reflect.DeepEqual(a, b)
}

func isShort(v int) bool { return v >= 0 && v <= mostShort }

// checkBy is what CheckQuestion should answer, by the chapter's words alone.
func checkBy(q api.Question) api.Errno {
	if e := name.Check(q.Name); e != api.OK {
		return e
	}
	if !isShort(q.Type) || !isShort(q.Class) {
		return api.ErrArg
	}
	return api.OK
}

// putBy puts a record that may be by the calls of pack and rdata, and answers the packer's error.
func putBy(p *pack.Packer, r api.Record) api.Errno {
	putQuestionBy(p, api.Question{Name: r.Name, Type: r.Type, Class: r.Class})
	p.Number(r.TTL, 4)
	at, _ := p.Begin()
	rdata.Put(p, r.Type, r.Data)
	p.End(at)
	return p.Err()
}

func putQuestionBy(p *pack.Packer, q api.Question) api.Errno {
	p.Name(q.Name)
	p.Put(number(q.Type, 2) + number(q.Class, 2))
	return p.Err()
}

// readBy is what Read should answer, by the chapter's words alone.
func readBy(s string, at int) (api.Record, int, api.Errno) {
	n, end, e := unpack.Name(s, at)
	if e != api.OK {
		return api.Record{}, 0, e
	}
	rest := s[end:]
	if len(rest) < 10 {
		return api.Record{}, 0, api.ErrMore
	}
	size := value(rest[8:10])
	if len(rest) < 10+size {
		return api.Record{}, 0, api.ErrMore
	}
	r := api.Record{Name: n, Type: value(rest[:2]), Class: value(rest[2:4]), TTL: uint32(value(rest[4:8]))}
	r.Data, e = rdata.Read(s, end+10, end+10+size, r.Type)
	if e != api.OK {
		return api.Record{}, 0, e
	}
	return r, end + 10 + size, api.OK
}

// readQuestionBy is what ReadQuestion should answer.
func readQuestionBy(s string, at int) (api.Question, int, api.Errno) {
	n, end, e := unpack.Name(s, at)
	if e == api.OK && len(s)-end < 4 {
		e = api.ErrMore
	}
	if e != api.OK {
		return api.Question{}, 0, e
	}
	return api.Question{Name: n, Type: value(s[end : end+2]), Class: value(s[end+2 : end+4])}, end + 4, api.OK
}

// wantCheck holds Check and Size against what they should answer.
func wantCheck(t *testing.T, r api.Record, e api.Errno, size int) {
	t.Helper()
	if got := record.Check(r); got != e {
		t.Errorf("Check: error %d, not %d: %s", got, e, show(r))
	}
	if got := record.Size(r); got != size {
		t.Errorf("Size: %d, not %d: %s", got, size, show(r))
	}
}

// wantRead holds Read against what it should answer.
func wantRead(t *testing.T, s string, at int, r api.Record, end int, e api.Errno) {
	t.Helper()
	got, to, err := record.Read(s, at)
	if err != e || to != end || !like(got, r) {
		t.Errorf("Read of %s at %d: %s, %d, error %d; not %s, %d, error %d", short(s), at, show(got), to, err, show(r), end, e)
	}
}

// wantNoRead holds Read of what is no record against the error alone.
func wantNoRead(t *testing.T, s string, at int, e api.Errno) {
	t.Helper()
	wantRead(t, s, at, api.Record{}, 0, e)
}

// wantModel holds Read against the model.
func wantModel(t *testing.T, s string, at int) {
	t.Helper()
	r, end, e := readBy(s, at)
	wantRead(t, s, at, r, end, e)
}

// wantQuestion holds ReadQuestion against what it should answer.
func wantQuestion(t *testing.T, s string, at int, q api.Question, end int, e api.Errno) {
	t.Helper()
	if got, to, err := record.ReadQuestion(s, at); err != e || to != end || got != q {
		t.Errorf("ReadQuestion of %s at %d: %#v, %d, error %d; not %#v, %d, error %d", short(s), at, got, to, err, q, end, e)
	}
}

// wantQuestionModel holds ReadQuestion against the model.
func wantQuestionModel(t *testing.T, s string, at int) {
	t.Helper()
	q, end, e := readQuestionBy(s, at)
	wantQuestion(t, s, at, q, end, e)
}

// The chapter's example.
func TestExample(t *testing.T) {
	r := api.Record{Name: dots("a.b"), Type: api.TypeA, Class: api.ClassIN, Data: api.Data{Addr: addr.Four(1, 2, 3, 4)}}
	if n := record.Size(r); n != 19 {
		t.Error(n)
	}
}

// P10.1 and P10.2: records of each type, checked, sized, put where nothing stands ahead, and read.
func TestRecords(t *testing.T) {
	all := samples()
	for _, k := range vast() {
		for _, n := range []api.Name{"", dots("a"), great(254)} {
			all = append(all, sampleOf(n, 1, 7, k))
		}
	}
	for _, c := range all {
		wantCheck(t, c.r, api.OK, len(c.s))
		wantRead(t, c.s, 0, c.r, len(c.s), api.OK)
		p := pack.New(mostOctets)
		e, room := record.Put(p, c.r), api.OK
		if len(c.s) > mostOctets {
			room = api.ErrLong
		}
		if e != room || p.Err() != room || e == api.OK && p.Text() != c.s {
			t.Errorf("%v: error %d; is put as %s", c, e, short(p.Text()))
		}
		if t.Failed() {
			t.FailNow()
		}
	}
}

// P10.1 and P10.2: questions, checked, put where nothing stands ahead, and read.
func TestQuestions(t *testing.T) {
	for _, c := range questions() {
		if e := record.CheckQuestion(c.q); e != api.OK {
			t.Errorf("%#v: error %d", c.q, e)
		}
		p := pack.New(mostOctets)
		if e := record.PutQuestion(p, c.q); e != api.OK || p.Text() != c.s || p.Err() != api.OK {
			t.Errorf("%#v: error %d; is put as %s", c.q, e, short(p.Text()))
		}
		wantQuestion(t, c.s, 0, c.q, len(c.s), api.OK)
	}
}

// P10.1 and P10.2: the ten octets ahead of the data, each number at its edges.
func TestTenOctets(t *testing.T) {
	want := func(typ, class int, ttl uint32, size int, ten string) {
		t.Helper()
		raw := strings.Repeat("x", size)
		r := api.Record{Name: dots("a"), Type: typ, Class: class, TTL: ttl, Data: api.Data{Raw: raw}}
		s := "\x01a\x00" + ten + raw
		p := pack.New(mostOctets)
		if e := record.Put(p, r); e != api.OK || p.Text() != s {
			t.Errorf("type %d, class %d, TTL %d, %d octets: error %d, %s", typ, class, ttl, size, e, short(p.Text()))
		}
		wantRead(t, s+"\x00", 0, r, len(s), api.OK)
		wantCheck(t, r, api.OK, len(s))
	}
	want(0x7172, 0x7374, 0x75767778, 0x0102, "qrstuvwx\x01\x02")
	want(41, 1, 0, 0, "\x00\x29\x00\x01\x00\x00\x00\x00\x00\x00")
	want(65535, 65535, math.MaxUint32, 255, "\xff\xff\xff\xff\xff\xff\xff\xff\x00\xff")
	want(0, 0, 1, 256, "\x00\x00\x00\x00\x00\x00\x00\x01\x01\x00")
	want(257, 256, 1<<31, 65522, "\x01\x01\x01\x00\x80\x00\x00\x00\xff\xf2") // as many as a message has room for
	want(256, 2, 1<<24, 1, "\x01\x00\x00\x02\x01\x00\x00\x00\x00\x01")
	for _, typ := range []int{0, 41, 256, 65535} {
		for _, class := range shorts {
			for _, ttl := range ttls {
				want(typ, class, ttl, 3, number(typ, 2)+number(class, 2)+number(ttl, 4)+"\x00\x03")
			}
		}
	}
}

// P10.1: names with pointers to what stands, and later ones to them; the length tells the octets as they are put.
func TestPutWithPointers(t *testing.T) {
	const ahead = "\x01a\x01b\x00"
	for _, c := range []struct {
		r api.Record
		s string
	}{
		{api.Record{Name: dots("a.b"), Type: 1, Class: 1, Data: api.Data{Addr: addr.Four(1, 2, 3, 4)}}, "\xc0\x00\x00\x01\x00\x01\x00\x00\x00\x00\x00\x04\x01\x02\x03\x04"},
		{api.Record{Name: dots("A.b"), Type: 5, Class: 1, TTL: 9, Data: api.Data{Name: dots("c.A.b")}}, "\x01A\xc0\x02\x00\x05\x00\x01\x00\x00\x00\x09\x00\x04\x01c\xc0\x05"},
		{api.Record{Name: dots("c.a.b"), Type: 2, Class: 1, Data: api.Data{Name: dots("c.a.b")}}, "\x01c\xc0\x00\x00\x02\x00\x01\x00\x00\x00\x00\x00\x02\xc0\x05"},
		{api.Record{Name: dots("c"), Type: 15, Class: 1, Data: api.Data{Nums: [5]uint32{1}, Name: dots("x.c")}}, "\x01c\x00\x00\x0f\x00\x01\x00\x00\x00\x00\x00\x06\x00\x01\x01x\xc0\x05"},
		{api.Record{Name: dots("b"), Type: 33, Class: 1, Data: api.Data{Name: dots("a.b")}}, "\xc0\x02\x00\x21\x00\x01\x00\x00\x00\x00\x00\x0b\x00\x00\x00\x00\x00\x00\x01a\x01b\x00"},
		{api.Record{Name: "", Type: 6, Class: 1, Data: api.Data{Name: dots("a.b"), Mail: dots("m.a.b")}}, "\x00\x00\x06\x00\x01\x00\x00\x00\x00\x00\x1a\xc0\x00\x01m\xc0\x00" + strings.Repeat("\x00", 20)},
		{api.Record{Name: "", Type: 41, Class: 1232, Data: api.Data{Raw: ahead}}, "\x00\x00\x29\x04\xd0\x00\x00\x00\x00\x00\x05" + ahead},
	} {
		p := pack.New(200)
		p.Name(dots("a.b"))
		if e := record.Put(p, c.r); e != api.OK || p.Text() != ahead+c.s {
			t.Errorf("error %d; %q, not %q", e, p.Text(), ahead+c.s)
		}
		wantRead(t, p.Text(), len(ahead), c.r, len(ahead)+len(c.s), api.OK)
	}
	p := pack.New(200)
	for _, n := range []string{"a.b", "c.b", "x.a.b", "a.b", "A.b"} {
		if e := record.PutQuestion(p, api.Question{Name: dots(n), Type: 28, Class: 3}); e != api.OK {
			t.Errorf("%s: error %d", n, e)
		}
	}
	const behind = "\x00\x1c\x00\x03"
	if s := "\x01a\x01b\x00" + behind + "\x01c\xc0\x02" + behind + "\x01x\xc0\x00" + behind + "\xc0\x00" + behind + "\x01A\xc0\x02" + behind; p.Text() != s {
		t.Errorf("%q, not %q", p.Text(), s)
	}
}

// P10.1: a length that the caller has begun still ends where he ends it.
func TestPutWithinABegunLength(t *testing.T) {
	p := pack.New(200)
	at, _ := p.Begin()
	record.Put(p, api.Record{Type: 1, Class: 1, Data: api.Data{Addr: addr.Four(1, 2, 3, 4)}})
	record.PutQuestion(p, api.Question{Type: 2, Class: 1})
	if e := p.End(at); e != api.OK || p.Text() != "\x00\x14\x00\x00\x01\x00\x01\x00\x00\x00\x00\x00\x04\x01\x02\x03\x04\x00\x00\x02\x00\x01" {
		t.Errorf("error %d; %q", e, p.Text())
	}
}

// P10.1: types and classes at the edges and beyond them.
func TestTypesAndClasses(t *testing.T) {
	all := append(slices.Clone(shorts), noShorts...)
	for _, n := range owners() {
		for _, typ := range all {
			for _, class := range all {
				e := api.OK
				if !isShort(typ) || !isShort(class) {
					e = api.ErrArg
				}
				if got := record.CheckQuestion(api.Question{Name: n, Type: typ, Class: class}); got != e {
					t.Errorf("CheckQuestion of type %d, class %d: error %d", typ, class, got)
				}
				d := dataOf(typ)
				size := 0
				if e == api.OK {
					size = len(n) + 11 + rdata.Size(typ, d)
				}
				wantCheck(t, api.Record{Name: n, Type: typ, Class: class, TTL: 5, Data: d}, e, size)
			}
		}
	}
}

// dataOf is data that may be of a type, or what is raw of one that is none.
func dataOf(t int) api.Data {
	for _, k := range datas() {
		if k.t == t {
			return k.d
		}
	}
	return api.Data{Raw: "raw"}
}

// wrong is a record that may not be, and its error.
type wrong struct {
	r api.Record
	e api.Errno
}

// wrongs is records with a name, a type, a class and data of which each is right or wrong.
func wrongs() []wrong {
	var row []wrong
	names := []struct {
		n api.Name
		e api.Errno
	}{{dots("a.b"), api.OK}, {"", api.OK}, {"\x00", api.ErrBad}, {"\x02a", api.ErrBad}, {great(255), api.ErrLong}, {wire(strings.Repeat("a", 64)), api.ErrBad}}
	datas := []struct {
		t int
		d api.Data
		e api.Errno
	}{
		{1, api.Data{Addr: addr.Four(1, 2, 3, 4)}, api.OK}, {1, api.Data{Addr: newer(0, 0)}, api.ErrArg}, {1, api.Data{Raw: "x"}, api.ErrArg}, {28, api.Data{}, api.ErrArg},
		{2, api.Data{Name: "\x00"}, api.ErrBad}, {6, api.Data{Mail: great(255)}, api.ErrLong}, {6, api.Data{Name: great(255), Mail: "\x00"}, api.ErrLong}, {15, api.Data{Nums: [5]uint32{65536}}, api.ErrArg},
		{16, api.Data{}, api.ErrArg}, {16, api.Data{Texts: []string{strings.Repeat("x", 256)}}, api.ErrLong}, {16, api.Data{Texts: slices.Repeat([]string{""}, 65536)}, api.ErrLong},
		{41, api.Data{Raw: strings.Repeat("x", 65536)}, api.ErrLong}, {41, api.Data{Raw: "x"}, api.OK}, {99, api.Data{Name: dots("a")}, api.ErrArg},
		{-1, api.Data{Raw: strings.Repeat("x", 65536)}, api.ErrArg}, {65536, api.Data{}, api.ErrArg}, {65537, api.Data{Addr: addr.Four(1, 2, 3, 4)}, api.ErrArg}, {-65535, api.Data{}, api.ErrArg},
	}
	for _, n := range names {
		for _, class := range []int{1, 0, 65535, -1, 65536, math.MinInt, 1<<32 + 1} {
			for _, d := range datas {
				e := n.e
				if e == api.OK && !isShort(class) {
					e = api.ErrArg
				}
				if e == api.OK {
					e = d.e
				}
				if e != api.OK {
					row = append(row, wrong{api.Record{Name: n.n, Type: d.t, Class: class, TTL: 1, Data: d.d}, e})
				}
			}
		}
	}
	return row
}

// P10.1: name.Check's error ahead of ErrArg ahead of rdata.Check's; nothing of such a record is told or put, and the packer has no error of it, but its own comes behind.
func TestRecordsThatMayNotBe(t *testing.T) {
	copied := *pack.New(100)
	for _, c := range wrongs() {
		wantCheck(t, c.r, c.e, 0)
		p := pack.New(100)
		p.Put("ahead")
		if e := record.Put(p, c.r); e != c.e || p.Text() != "ahead" || p.Err() != api.OK {
			t.Errorf("Put: error %d, not %d; %q stands, error %d: %s", e, c.e, p.Text(), p.Err(), show(c.r))
		}
		if e := record.Put(full(), c.r); e != c.e {
			t.Errorf("Put with a packer that has an error: %d, not %d: %s", e, c.e, show(c.r))
		}
		for _, p := range []*pack.Packer{nil, {}, &copied} {
			if e := record.Put(p, c.r); e != api.ErrNil {
				t.Errorf("Put without a packer: error %d: %s", e, show(c.r))
			}
		}
	}
}

// full is a packer that has an error, ErrLong.
func full() *pack.Packer {
	p := pack.New(2)
	p.Put("xyz")
	return p
}

// P10.1: the same of questions.
func TestQuestionsThatMayNotBe(t *testing.T) {
	copied := *pack.New(100)
	for _, c := range wrongs() {
		q := api.Question{Name: c.r.Name, Type: c.r.Type, Class: c.r.Class}
		want := checkBy(q)
		if e := record.CheckQuestion(q); e != want {
			t.Errorf("CheckQuestion: error %d, not %d: %#v", e, want, q)
		}
		if want == api.OK {
			continue
		}
		p := pack.New(100)
		p.Put("ahead")
		if e := record.PutQuestion(p, q); e != want || p.Text() != "ahead" || p.Err() != api.OK {
			t.Errorf("PutQuestion: error %d, not %d; %q stands, error %d: %#v", e, want, p.Text(), p.Err(), q)
		}
		if e := record.PutQuestion(full(), q); e != want {
			t.Errorf("PutQuestion with a packer that has an error: %d, not %d: %#v", e, want, q)
		}
		for _, p := range []*pack.Packer{nil, {}, &copied} {
			if e := record.PutQuestion(p, q); e != api.ErrNil {
				t.Errorf("PutQuestion without a packer: error %d: %#v", e, q)
			}
		}
	}
}

// P10.1: no packer, or one that nobody made, for what may be; and one that has an error.
func TestPackersThatPutNothing(t *testing.T) {
	copied := *pack.New(mostOctets)
	for _, c := range samples() {
		for _, p := range []*pack.Packer{nil, {}, &copied} {
			if e := record.Put(p, c.r); e != api.ErrNil {
				t.Fatalf("%v: error %d", c, e)
			}
		}
		if p := full(); record.Put(p, c.r) != api.ErrLong || p.Text() != "" {
			t.Fatalf("%v: with a packer that has an error", c)
		}
	}
	for _, c := range questions() {
		for _, p := range []*pack.Packer{nil, {}, &copied} {
			if e := record.PutQuestion(p, c.q); e != api.ErrNil {
				t.Fatalf("%#v: error %d", c.q, e)
			}
		}
		if p := full(); record.PutQuestion(p, c.q) != api.ErrLong || p.Text() != "" {
			t.Fatalf("%#v: with a packer that has an error", c.q)
		}
	}
	if copied.Text() != "" {
		t.Errorf("%q", copied.Text())
	}
}

// P10.1: ErrLong of each room that is too little, and from then on; none, where there is just enough.
func TestPutWithTooLittleRoom(t *testing.T) {
	try := func(what any, s string, put func(*pack.Packer) api.Errno) {
		t.Helper()
		for most := range len(s) + 2 {
			e := api.OK
			if most < len(s) {
				e = api.ErrLong
			}
			p := pack.New(most)
			if got := put(p); got != e || p.Err() != e || e == api.OK && p.Text() != s {
				t.Fatalf("%v into %d octets: error %d, not %d; %s", what, most, got, e, short(p.Text()))
			}
			if e != api.OK && (record.Put(p, api.Record{}) != e || record.PutQuestion(p, api.Question{}) != e) {
				t.Fatalf("%v into %d octets: the error doesn't stay", what, most)
			}
		}
	}
	for _, c := range samples() {
		if c.name < 100 || c.r.Type == 1 || c.r.Type == 6 {
			try(c, c.s, func(p *pack.Packer) api.Errno { return record.Put(p, c.r) })
		}
	}
	for _, c := range questions() {
		if c.q.Name != great(254) || c.q.Type == 28 {
			try(c.q, c.s, func(p *pack.Packer) api.Errno { return record.PutQuestion(p, c.q) })
		}
	}
	p := pack.New(19 + 14)
	r := api.Record{Name: dots("a.b"), Type: 1, Class: 1}
	if e := record.Put(p, r); e != api.OK || p.Len() != 19 {
		t.Errorf("the first one: error %d, %d octets", e, p.Len())
	}
	if e := record.Put(p, r); e != api.ErrLong || !strings.HasPrefix(p.Text(), "\x01a\x01b\x00\x00\x01\x00\x01") {
		t.Errorf("the second one: error %d, %q", e, p.Text())
	}
}

// P10.2: octets that end too early, at each place: in the name, in the ten octets, in the data.
func TestReadOfOctetsThatEndTooEarly(t *testing.T) {
	for _, c := range samples() {
		for end := range len(c.s) {
			wantNoRead(t, c.s[:end], 0, api.ErrMore)
			wantNoRead(t, "\x01"+c.s[:end], 1, api.ErrMore)
		}
	}
	for _, k := range vast() {
		c := sampleOf(dots("a"), 1, 1, k)
		for _, end := range []int{12, 13, 14, 269, 65534, len(c.s) - 2, len(c.s) - 1} {
			wantNoRead(t, c.s[:end], 0, api.ErrMore)
		}
	}
	for _, c := range questions() {
		for end := range len(c.s) {
			wantQuestion(t, c.s[:end], 0, api.Question{}, 0, api.ErrMore)
			wantQuestion(t, "\x01"+c.s[:end], 1, api.Question{}, 0, api.ErrMore)
		}
	}
}

// P10.2: data that are shorter or longer than their length tells.
func TestReadOfLengthsThatAreOthers(t *testing.T) {
	for _, c := range samples() {
		at := c.name + 8
		for size := range c.datas + 6 {
			for _, behind := range []string{"", "\x00\x00\x00\x00\x00\x00", "\x01a\x00\x01b\x00"} {
				s := c.s[:at] + number(size, 2) + c.s[at+2:] + behind
				wantModel(t, s, 0)
				if size > len(s)-at-2 {
					wantNoRead(t, s, 0, api.ErrMore)
				}
			}
		}
	}
	ten := func(typ, size int) string {
		return "\x01a\x00" + number(typ, 2) + "\x00\x01\x00\x00\x00\x05" + number(size, 2)
	}
	for _, c := range []struct {
		typ, size int
		s         string
		e         api.Errno
	}{
		{1, 4, "\x01\x02\x03\x04", api.OK}, {1, 4, "\x01\x02\x03", api.ErrMore}, {1, 3, "\x01\x02\x03", api.ErrMore}, {1, 3, "\x01\x02\x03\x04", api.ErrMore}, {1, 0, "\x01\x02\x03\x04", api.ErrMore}, {1, 0, "", api.ErrMore},
		{1, 5, "\x01\x02\x03\x04\x05", api.ErrBad}, {1, 5, "\x01\x02\x03\x04", api.ErrMore}, {1, 65535, "\x01\x02\x03\x04", api.ErrMore},
		{28, 16, strings.Repeat("\x01", 16), api.OK}, {28, 15, strings.Repeat("\x01", 16), api.ErrMore}, {28, 17, strings.Repeat("\x01", 17), api.ErrBad}, {28, 4, strings.Repeat("\x01", 16), api.ErrMore},
		{5, 1, "\x00", api.OK}, {5, 2, "\x00\x00", api.ErrBad}, {5, 0, "\x00", api.ErrMore}, {5, 3, "\x01b\x00", api.OK}, {5, 2, "\x01b\x00", api.ErrMore}, {5, 2, "\xc0\x00", api.OK}, {5, 1, "\xc0\x00", api.ErrMore},
		{5, 2, "\xc0\x0d", api.ErrBad}, {5, 2, "\x40\x00", api.ErrBad}, {5, 3, "\xc0\x00\x00", api.ErrBad}, {5, 255, string(great(254)) + "\x00", api.OK}, {5, 256, string(great(255)) + "\x00", api.ErrLong},
		{15, 3, "\x00\x01\x00", api.OK}, {15, 2, "\x00\x01\x00", api.ErrMore}, {15, 1, "\x00\x01\x00", api.ErrMore}, {33, 7, "\x00\x01\x00\x02\x00\x03\x00", api.OK}, {33, 8, "\x00\x01\x00\x02\x00\x03\xc0\x00", api.ErrBad},
		{16, 1, "\x00", api.OK}, {16, 0, "", api.ErrMore}, {16, 1, "\x01a", api.ErrMore}, {16, 2, "\x01a", api.OK}, {16, 3, "\x01a\x00", api.OK}, {16, 3, "\x01a\x01", api.ErrMore},
		{41, 0, "", api.OK}, {41, 1, "", api.ErrMore}, {41, 1, "\x40", api.OK}, {0, 2, "\x40", api.ErrMore}, {65535, 256, strings.Repeat("x", 255), api.ErrMore}, {65535, 255, strings.Repeat("x", 255), api.OK},
	} {
		s := ten(c.typ, c.size) + c.s
		if c.e != api.OK {
			wantNoRead(t, s, 0, c.e)
			continue
		}
		d, e := rdata.Read(s, 13, 13+c.size, c.typ)
		if e != api.OK {
			t.Errorf("type %d, %d octets: error %d", c.typ, c.size, e)
		}
		wantRead(t, s, 0, api.Record{Name: dots("a"), Type: c.typ, Class: 1, TTL: 5, Data: d}, 13+c.size, api.OK)
	}
}

// P10.2: unpack's error ahead of ErrMore ahead of rdata's.
func TestWhichErrorOfReadComesFirst(t *testing.T) {
	for _, c := range []struct {
		s string
		e api.Errno
	}{
		{"", api.ErrMore}, {"\x40", api.ErrBad}, {"\xbf", api.ErrBad}, {"\xc0", api.ErrMore}, {"\xc0\x00", api.ErrBad}, {"\x01", api.ErrMore}, {"\x01a", api.ErrMore}, {"\x01a\xff\xff", api.ErrBad},
		{string(great(255)) + "\x00", api.ErrLong}, {string(great(255)), api.ErrLong}, {string(great(254)), api.ErrMore}, {string(great(254)) + "\x00", api.ErrMore},
		{"\x40\x00\x05\x00\x01\x00\x00\x00\x00\x00\x01\x40", api.ErrBad}, {"\x00\x00\x05\x00\x01\x00\x00\x00\x00\x00\x01\x40", api.ErrBad}, {"\x00\x00\x05\x00\x01\x00\x00\x00\x00\x00\x02\x40", api.ErrMore},
		{"\x00\x00\x05\x00\x01\x00\x00\x00\x00\x00", api.ErrMore}, {"\x00\x00\x05\x00\x01\x00\x00\x00\x00\xff\xff" + string(great(255)) + "\x00", api.ErrMore}, {"\x00\x00\x05\x00\x01\x00\x00\x00\x00\x00\xff" + string(great(254)), api.ErrMore},
		{"\x00\x00\x05\x00\x01\x00\x00\x00\x00\x00\xff" + string(great(255)), api.ErrLong}, {string(great(255)) + "\x00\x00\x01\x00\x01\x00\x00\x00\x00\x00\x09", api.ErrLong},
	} {
		wantNoRead(t, c.s, 0, c.e)
		wantQuestionModel(t, c.s, 0)
	}
	for _, c := range []struct {
		s string
		e api.Errno
	}{
		{"\x40\x00\x01\x00", api.ErrBad}, {"\xc0\x00\x00\x01", api.ErrBad}, {"\x00\x00\x01\x00", api.ErrMore}, {"\x00", api.ErrMore}, {string(great(255)) + "\x00\x00\x01", api.ErrLong}, {"\x01a\xc0", api.ErrMore},
	} {
		wantQuestion(t, c.s, 0, api.Question{}, 0, c.e)
	}
}

// P10.2: places that may not be: unpack's ErrArg.
func TestReadAtPlacesThatMayNotBe(t *testing.T) {
	for _, c := range samples()[:20] {
		for _, at := range []int{math.MinInt, math.MinInt32, -2, -1, len(c.s) + 1, len(c.s) + 2, math.MaxInt32, math.MaxInt} {
			wantNoRead(t, c.s, at, api.ErrArg)
			wantQuestion(t, c.s, at, api.Question{}, 0, api.ErrArg)
		}
		wantNoRead(t, c.s, len(c.s), api.ErrMore)
		wantQuestion(t, c.s, len(c.s), api.Question{}, 0, api.ErrMore)
		for at := range len(c.s) {
			wantModel(t, c.s, at)
			wantQuestionModel(t, c.s, at)
		}
	}
	wantNoRead(t, "", 1, api.ErrArg)
	wantNoRead(t, "", -1, api.ErrArg)
}

// P10.2: names with pointers to what stands ahead, in front of the record and in it; none to what isn't ahead.
func TestReadNamesWithPointers(t *testing.T) {
	const (
		ahead  = "\x01a\x01b\x00" // a.b at 0, b at 2
		middle = "\x00\x05\x00\x01\x00\x00\x00\x07\x00"
	)
	for _, c := range []struct {
		s    string
		n, d api.Name
		e    api.Errno
	}{
		{"\xc0\x00" + middle + "\x02\xc0\x02", dots("a.b"), dots("b"), api.OK},
		{"\xc0\x04" + middle + "\x04\x01x\xc0\x05", "", dots("x"), api.OK}, // to the record's own name
		{"\x01c\xc0\x02" + middle + "\x02\xc0\x05", dots("c.b"), dots("c.b"), api.OK},
		{"\x01c\xc0\x02" + middle + "\x02\xc0\x07", dots("c.b"), dots("b"), api.OK},
		{"\x01c\x00" + middle + "\x04\x01C\xc0\x05", dots("c"), dots("C.c"), api.OK},
		{"\x01c\x00" + middle + "\x02\xc0\x0d", dots("c"), "", api.OK},    // to the TTL's first octet, a nought
		{"\xc0\x05" + middle + "\x02\xc0\x02", "", "", api.ErrBad},        // to itself
		{"\xc0\x06" + middle + "\x02\xc0\x02", "", "", api.ErrBad},        // behind itself
		{"\x01c\xc0\x05" + middle + "\x02\xc0\x02", "", "", api.ErrBad},   // round and round
		{"\x01c\x00" + middle + "\x02\xc0\x12", "", "", api.ErrBad},       // to itself, in the data
		{"\x01c\x00" + middle + "\x04\x01d\xc0\x12", "", "", api.ErrBad},  // round and round
		{"\x01c\x00" + middle + "\x02\xc0\x14\x00", "", "", api.ErrBad},   // behind itself
		{"\x01c\x00" + middle + "\x03\xc0\x00\x00", "", "", api.ErrBad},   // one octet left
		{"\x01c\x00" + middle + "\x01\xc0\x00\x00", "", "", api.ErrMore},  // the pointer's second octet is beyond
		{"\x01c\x00" + middle + "\x02\x01d\xc0\x00", "", "", api.ErrMore}, // the pointer is beyond
	} {
		for _, behind := range []string{"", "\x00", "\x01e\x00"} {
			if c.e == api.OK {
				wantRead(t, ahead+c.s+behind, 5, api.Record{Name: c.n, Type: 5, Class: 1, TTL: 7, Data: api.Data{Name: c.d}}, 5+len(c.s), api.OK)
			} else {
				wantNoRead(t, ahead+c.s+behind, 5, c.e)
			}
		}
		wantQuestionModel(t, ahead+c.s, 5)
	}
}

// P10.2: each sample with one octet that is another one.
func TestReadOfOctetsThatAreOthers(t *testing.T) {
	for _, c := range samples() {
		if c.name > 100 {
			continue
		}
		for at := range len(c.s) {
			for _, other := range []byte{0, 1, 2, 3, 5, 12, 16, 28, 63, 64, 192, 255} {
				b := []byte("\x01a\x01b\x00" + c.s + "\x01c\x00")
				b[5+at] = other
				wantModel(t, string(b), 5)
				wantQuestionModel(t, string(b), 5)
			}
		}
	}
}

// rows tells all rows of octets out of some, up to a length.
func rows(some string, length int, tell func(string)) {
	var grow func(string)
	grow = func(s string) {
		tell(s)
		if len(s) == length {
			return
		}
		for _, c := range []byte(some) {
			grow(s + string([]byte{c}))
		}
	}
	grow("")
}

// P10.2: all short rows, from each place, as questions and as records; and as a record's length and data.
func TestReadOfAllShortRows(t *testing.T) {
	rows("\x00\x01\x40\xc0a", 6, func(s string) {
		for at := range len(s) + 1 {
			wantQuestionModel(t, s, at)
			wantModel(t, s, at)
		}
	})
	for _, typ := range []int{1, 5, 15, 16, 41} {
		ahead := "\x01a\x00" + number(typ, 2) + "\x00\x01\x00\x00\x00\x05\x00"
		rows("\x00\x01\x02\x04\xc0a", 5, func(s string) {
			wantModel(t, ahead+s, 0)
			wantModel(t, ahead+s, 1)
		})
	}
}

// draws is a row of numbers as good as drawn, the same each time.
type draws struct{ state uint32 }

func (d *draws) below(n int) int {
	d.state = d.state*1664525 + 1013904223
	return int(d.state>>8) % n
}

// name is one of many names whose rests are often alike, some of them long.
func (d *draws) name() api.Name {
	var row []string
	for range d.below(6) {
		l := string([]byte{"abAB"[d.below(4)]})
		if d.below(9) == 0 {
			l = strings.Repeat(l, 1+d.below(40))
		}
		row = append(row, l)
	}
	return wire(row...)
}

// record is one of many that may be, its data's names out of those, too.
func (d *draws) record(all []kept) api.Record {
	k := all[d.below(len(all))]
	if k.t != 16 && k.d.Name != "" {
		k.d.Name = d.name()
	}
	if k.d.Mail != "" {
		k.d.Mail = d.name()
	}
	return api.Record{Name: d.name(), Type: k.t, Class: d.below(65536), TTL: uint32(d.below(1<<24)) << d.below(9), Data: k.d}
}

// stand is a record or a question, where it stands.
type stand struct {
	r       api.Record
	q       api.Question
	asks    bool
	at, end int
}

// fill puts records and questions, one behind the other and with octets between, as long as there is room.
func fill(t *testing.T, d *draws, p *pack.Packer) []stand {
	all, other := datas(), pack.New(20000)
	var row []stand
	for {
		c := stand{r: d.record(all), asks: d.below(4) == 0, at: p.Len()}
		c.q = api.Question{Name: d.name(), Type: d.below(65536), Class: d.below(65536)}
		var e, same api.Errno
		if c.asks {
			e, same = record.PutQuestion(p, c.q), putQuestionBy(other, c.q)
		} else {
			e, same = record.Put(p, c.r), putBy(other, c.r)
		}
		if e != same || e == api.OK && p.Text()[c.at:] != other.Text()[c.at:] {
			t.Fatalf("error %d, not %d; %s", e, same, short(p.Text()[c.at:]))
		}
		if e != api.OK {
			return row
		}
		c.end = p.Len()
		if most := record.Size(c.r); !c.asks && c.end-c.at > most {
			t.Errorf("%d octets, not %d: %s", c.end-c.at, most, show(c.r))
		}
		row = append(row, c)
		between := strings.Repeat("\xc0", d.below(3))
		p.Put(between)
		other.Put(between)
	}
}

// P10.3: what was put is read, and ends where it ends, whatever stands around it, beyond 2^14, too.
func TestWhatWasPutIsRead(t *testing.T) {
	for seed := range 20 {
		p := pack.New(20000)
		row := fill(t, &draws{uint32(seed)}, p)
		s := p.Text()
		if len(s) < reach {
			t.Fatalf("seed %d: %d octets alone", seed, len(s))
		}
		for _, c := range row {
			for _, s := range []string{s, s[:c.end], s[:c.end] + "\x00\x40\xff"} {
				if c.asks {
					wantQuestion(t, s, c.at, c.q, c.end, api.OK)
				} else {
					wantRead(t, s, c.at, c.r, c.end, api.OK)
				}
			}
		}
		if t.Failed() {
			t.Fatalf("seed %d", seed)
		}
	}
	for _, c := range samples() {
		for _, ahead := range []string{"\x00", "\xc0\x00", "\x3f\x40", strings.Repeat("\xff", reach)} {
			p := pack.New(mostOctets)
			p.Put(ahead)
			record.Put(p, c.r)
			for _, behind := range []string{"", "\x00", "\x40", "\xc0", "\x01a"} {
				wantRead(t, p.Text()+behind, len(ahead), c.r, len(ahead)+len(c.s), api.OK)
			}
		}
	}
}

// variants is records that differ from the first in one part alone.
func variants() []api.Record {
	all := func() api.Record {
		return api.Record{Name: dots("a.b"), Type: 1, Class: 2, TTL: 3, Data: api.Data{Addr: addr.Four(1, 2, 3, 4), Name: dots("c"), Mail: dots("d"), Nums: [5]uint32{1, 2}, Texts: []string{"a", "b"}, Raw: "raw"}}
	}
	row := []api.Record{all()}
	for _, set := range []func(r *api.Record){
		func(r *api.Record) { r.Name = dots("A.b") },
		func(r *api.Record) { r.Name = dots("a.B") },
		func(r *api.Record) { r.Name = dots("a.c") },
		func(r *api.Record) { r.Name = dots("a") },
		func(r *api.Record) { r.Name = "" },
		func(r *api.Record) { r.Name = "\x00" },
		func(r *api.Record) { r.Type = 28 },
		func(r *api.Record) { r.Type = 0 },
		func(r *api.Record) { r.Type = -1 },
		func(r *api.Record) { r.Type += 1 << 16 },
		func(r *api.Record) { r.Class = 3 },
		func(r *api.Record) { r.Class = 0 },
		func(r *api.Record) { r.Class += 1 << 16 },
		func(r *api.Record) { r.Type, r.Class = r.Class, r.Type },
		func(r *api.Record) { r.TTL = 4 },
		func(r *api.Record) { r.TTL = 0 },
		func(r *api.Record) { r.TTL += 1 << 31 },
		func(r *api.Record) { r.Data.Addr.Lo++ },
		func(r *api.Record) { r.Data.Addr.Six = true },
		func(r *api.Record) { r.Data.Name = dots("C") },
		func(r *api.Record) { r.Data.Mail = dots("D") },
		func(r *api.Record) { r.Data.Nums[1] = 3 },
		func(r *api.Record) { r.Data.Nums[4] = 1 },
		func(r *api.Record) { r.Data.Texts[1] = "B" },
		func(r *api.Record) { r.Data.Texts = []string{"b", "a"} },
		func(r *api.Record) { r.Data.Texts = nil },
		func(r *api.Record) { r.Data.Raw = "Raw" },
		func(r *api.Record) { r.Data = api.Data{} },
	} {
		r := all()
		set(&r)
		row = append(row, r)
	}
	return append(row, api.Record{})
}

// P10.2: Same of what differs in one part alone, case, too, whether it may be or not.
func TestSame(t *testing.T) {
	again := variants()
	for i, a := range variants() {
		for j, b := range again {
			if record.Same(a, b) != (i == j) {
				t.Errorf("Same of %s and %s: %v", show(a), show(b), i != j)
			}
		}
	}
	for _, a := range [][]string{nil, {}, make([]string, 0, 3)} {
		for _, b := range [][]string{nil, {}, make([]string, 0, 3)} {
			if !record.Same(api.Record{Data: api.Data{Texts: a}}, api.Record{Data: api.Data{Texts: b}}) {
				t.Error("no texts and no texts")
			}
		}
	}
}

// P10.2: SameQuestion likewise.
func TestSameQuestion(t *testing.T) {
	row := []api.Question{
		{}, {Name: dots("a.b"), Type: 1, Class: 2}, {Name: dots("A.b"), Type: 1, Class: 2}, {Name: dots("a.B"), Type: 1, Class: 2}, {Name: dots("a"), Type: 1, Class: 2}, {Type: 1, Class: 2}, {Name: "\x00", Type: 1, Class: 2},
		{Name: dots("a.b"), Type: 2, Class: 2}, {Name: dots("a.b"), Type: 1, Class: 1}, {Name: dots("a.b"), Type: 2, Class: 1}, {Name: dots("a.b"), Class: 2}, {Name: dots("a.b"), Type: 1},
		{Name: dots("a.b"), Type: 65537, Class: 2}, {Name: dots("a.b"), Type: 1, Class: 65538}, {Name: dots("a.b"), Type: -1, Class: 2}, {Name: dots("a.b"), Type: 1, Class: -1},
	}
	for i, a := range row {
		for j, b := range slices.Clone(row) {
			if record.SameQuestion(a, b) != (i == j) {
				t.Errorf("SameQuestion of %#v and %#v: %v", a, b, i != j)
			}
		}
	}
}

// DOC.md's rule 3: what is answered is new, what is handed in stays as it is, its spare room, too.
func TestMemory(t *testing.T) {
	room := []string{"a", "", "b", "spare", "room"}
	r := api.Record{Name: dots("a"), Type: 16, Class: 1, Data: api.Data{Texts: room[:3]}}
	p := pack.New(100)
	record.Check(r)
	record.Size(r)
	record.Same(r, r)
	if e := record.Put(p, r); e != api.OK || !slices.Equal(room, []string{"a", "", "b", "spare", "room"}) {
		t.Errorf("error %d; %q", e, room)
	}
	s := p.Text()
	room[0], room[2] = "X", "Y"
	if p.Text() != s {
		t.Errorf("%q, then %q", s, p.Text())
	}
	one, _, _ := record.Read(s, 0)
	two, _, _ := record.Read(s, 0)
	for i := range one.Data.Texts[:cap(one.Data.Texts)] {
		one.Data.Texts[:cap(one.Data.Texts)][i] = "W"
	}
	if !slices.Equal(two.Data.Texts, []string{"a", "", "b"}) {
		t.Errorf("%q", two.Data.Texts)
	}
	wantRead(t, s, 0, two, len(s), api.OK)
}
