package message_test

import (
	"fmt"
	"math"
	"reflect"
	"slices"
	"strings"
	"testing"

	"nameplate/addr"
	"nameplate/api"
	"nameplate/header"
	"nameplate/message"
	"nameplate/record"
)

const (
	mostOctets = 65535
	reach      = 16384 // 2^14: no pointer leads there
	ahead      = 12    // the header's octets
)

// Rooms that are none, or below none, and rooms that are more than a message may have.
var (
	noRooms    = []int{math.MinInt, math.MinInt32, -65536, -12, -1, 0, 1, 11}
	greatRooms = []int{65535, 65536, 65537, 1 << 17, math.MaxInt32, 1 << 32, 1<<32 + 1, math.MaxInt}
)

// wire is the name of labels, put together without a look at whether they may be.
func wire(labels ...string) api.Name {
	var row []byte
	for _, l := range labels {
		row = append(append(row, byte(len(l))), l...)
	}
	return api.Name(row)
}

// dots is the name whose labels stand in s with dots between.
func dots(s string) api.Name { return wire(strings.Split(s, ".")...) }

// great is labels as long as can be, whose name has n octets, from 194 to 256.
func great(n int) api.Name {
	full := strings.Repeat("B", 63)
	return wire(full, full, full, strings.Repeat("b", n-193))
}

// number is a number as n octets.
func number[T int | uint32 | uint64](v T, n int) string {
	var row []byte
	for i := range n {
		row = append(row, byte(uint64(v)>>(8*(n-1-i))))
	}
	return string(row)
}

// short is a text as far as a row of the tests' words has room for it.
func short(s string) string {
	if len(s) > 120 {
		return fmt.Sprintf("%q .. %q (%d)", s[:60], s[len(s)-60:], len(s))
	}
	return fmt.Sprintf("%q", s)
}

// show is a message, as far as a row of the tests' words has room for it.
func show(m api.Message) string {
	s := fmt.Sprintf("%#v", m)
	return s[:min(len(s), 500)]
}

func asks(n string, t int) api.Question { return api.Question{Name: dots(n), Type: t, Class: 1} }

func a(n string, last byte) api.Record {
	return api.Record{Name: dots(n), Type: 1, Class: 1, TTL: 60, Data: api.Data{Addr: addr.Four(1, 2, 3, last)}}
}

func alias(n, of string) api.Record {
	return api.Record{Name: dots(n), Type: 5, Class: 1, TTL: 7, Data: api.Data{Name: dots(of)}}
}

// raw is a record of the root that has 11 octets and these.
func raw(s string) api.Record {
	return api.Record{Type: 41, Class: 1232, Data: api.Data{Raw: s}}
}

// counted is m with the Counts of its rows.
func counted(m api.Message) api.Message {
	m.Header.Counts = [4]int{len(m.Questions), len(m.Answers), len(m.Authority), len(m.More)}
	return m
}

// rows is a message of four rows, with their Counts.
func rows(q []api.Question, answers, authority, more []api.Record) api.Message {
	return counted(api.Message{Header: api.Header{ID: 0x0102, Response: true, RD: true}, Questions: q, Answers: answers, Authority: authority, More: more})
}

// written puts parts by the chapters' words alone.
type written struct {
	octets []byte
	stands map[string]int // where a rest of a name stands first; nil, where nothing is pointed to
}

func (w *written) put(s string) { w.octets = append(w.octets, s...) }

func (w *written) name(n api.Name, pointed bool) {
	pointed = pointed && w.stands != nil
	rest := string(n)
	for rest != "" {
		at, some := w.stands[rest]
		if pointed && some {
			w.put(number(0xc000+at, 2))
			return
		}
		if at := len(w.octets); pointed && at < reach {
			w.stands[rest] = at
		}
		first := 1 + int(rest[0])
		w.put(rest[:first])
		rest = rest[first:]
	}
	w.put("\x00")
}

func (w *written) numbers(row [5]uint32, width int, n int) {
	for _, v := range row[:n] {
		w.put(number(v, width))
	}
}

func (w *written) data(t int, d api.Data) {
	switch t {
	case 1:
		w.put(number(d.Addr.Lo, 4))
	case 28:
		w.put(number(d.Addr.Hi, 8) + number(d.Addr.Lo, 8))
	case 2, 5, 12:
		w.name(d.Name, true)
	case 6:
		w.name(d.Name, true)
		w.name(d.Mail, true)
		w.numbers(d.Nums, 4, 5)
	case 15:
		w.numbers(d.Nums, 2, 1)
		w.name(d.Name, true)
	case 16:
		for _, s := range d.Texts {
			w.put(number(len(s), 1) + s)
		}
	case 33:
		w.numbers(d.Nums, 2, 3)
		w.name(d.Name, false)
	default:
		w.put(d.Raw)
	}
}

func (w *written) record(r api.Record) {
	w.name(r.Name, true)
	w.put(number(r.Type, 2) + number(r.Class, 2) + number(r.TTL, 4) + "\x00\x00")
	at := len(w.octets)
	w.data(r.Type, r.Data)
	copy(w.octets[at-2:], number(len(w.octets)-at, 2))
}

func (w *written) message(m api.Message) string {
	s, e := header.Put(m.Header)
	if e != api.OK {
		panic(e)
	}
	w.put(s)
	for _, q := range m.Questions {
		w.name(q.Name, true)
		w.put(number(q.Type, 2) + number(q.Class, 2))
	}
	for _, row := range [][]api.Record{m.Answers, m.Authority, m.More} {
		for _, r := range row {
			w.record(r)
		}
	}
	return string(w.octets)
}

// octetsBy is the octets of a message that may be, of however many.
func octetsBy(m api.Message) string { return (&written{stands: map[string]int{}}).message(m) }

// plainBy is those octets without pointers.
func plainBy(m api.Message) string { return (&written{}).message(m) }

// cutBy is what Cut should answer of a message that may be: tried one by one.
func cutBy(m api.Message, most int) (string, api.Errno) {
	most = min(most, mostOctets)
	s := octetsBy(m)
	for len(s) > most {
		m.Header.TC = true
		switch {
		case len(m.More) > 0:
			m.More = m.More[:len(m.More)-1]
		case len(m.Authority) > 0:
			m.Authority = m.Authority[:len(m.Authority)-1]
		case len(m.Answers) > 0:
			m.Answers = m.Answers[:len(m.Answers)-1]
		default:
			return "", api.ErrLong
		}
		s = octetsBy(counted(m))
	}
	return s, api.OK
}

// readBy is what Read should answer, by the chapter's words alone.
func readBy(s string) (api.Message, api.Errno) {
	if len(s) > mostOctets {
		return api.Message{}, api.ErrLong
	}
	h, e := header.Read(s)
	if e != api.OK {
		return api.Message{}, e
	}
	m := api.Message{Header: h}
	at := ahead
	for i, n := range h.Counts {
		for range n {
			var q api.Question
			var r api.Record
			if i == 0 {
				q, at, e = record.ReadQuestion(s, at)
				m.Questions = append(m.Questions, q)
			} else {
				r, at, e = record.Read(s, at)
				row := []*[]api.Record{&m.Answers, &m.Authority, &m.More}[i-1]
				*row = append(*row, r)
			}
			if e != api.OK {
				return api.Message{}, e
			}
		}
	}
	if at != len(s) {
		return api.Message{}, api.ErrBad
	}
	return m, api.OK
}

// deep is m with nil in the place of each empty list.
func deep(m api.Message) api.Message {
	m.Questions = append([]api.Question(nil), m.Questions...)
	for _, row := range []*[]api.Record{&m.Answers, &m.Authority, &m.More} {
		*row = append([]api.Record(nil), *row...)
		for i := range *row {
			(*row)[i].Data.Texts = append([]string(nil), (*row)[i].Data.Texts...)
		}
	}
	return m
}

// like tells whether messages are the same; a nil list and an empty one are.
func like(a, b api.Message) bool { return reflect.DeepEqual(deep(a), deep(b)) }

// wantRead holds Read against what it should answer.
func wantRead(t *testing.T, s string, m api.Message, e api.Errno) {
	t.Helper()
	if got, err := message.Read(s); err != e || !like(got, m) {
		t.Errorf("Read of %s: error %d, %s; not error %d, %s", short(s), err, show(got), e, show(m))
	}
}

// wantNoRead holds Read of what is no message against the error alone.
func wantNoRead(t *testing.T, s string, e api.Errno) {
	t.Helper()
	wantRead(t, s, api.Message{}, e)
}

// wantModel holds Read against the model.
func wantModel(t *testing.T, s string) (api.Message, api.Errno) {
	t.Helper()
	m, e := readBy(s)
	wantRead(t, s, m, e)
	return m, e
}

// wantPut holds Put against what it should answer.
func wantPut(t *testing.T, m api.Message, most int, s string, e api.Errno) {
	t.Helper()
	if got, err := message.Put(m, most); err != e || got != s {
		t.Errorf("Put into %d octets: error %d, %s; not error %d, %s: %s", most, err, short(got), e, short(s), show(m))
	}
}

// wantCut holds Cut against what it should answer.
func wantCut(t *testing.T, m api.Message, most int, s string, e api.Errno) {
	t.Helper()
	if got, err := message.Cut(m, most); err != e || got != s {
		t.Errorf("Cut into %d octets: error %d, %s; not error %d, %s: %s", most, err, short(got), e, short(s), show(m))
	}
}

// wantMessage holds all calls of a message that may be, and has room, against what they should answer.
func wantMessage(t *testing.T, m api.Message) {
	t.Helper()
	if e := message.Check(m); e != api.OK {
		t.Errorf("Check: error %d: %s", e, show(m))
	}
	s := octetsBy(m)
	if size := message.Size(m); size != len(plainBy(m)) || size < len(s) {
		t.Errorf("Size: %d, not %d; %d octets are put: %s", size, len(plainBy(m)), len(s), show(m))
	}
	for _, most := range append([]int{len(s), len(s) + 1}, greatRooms...) {
		wantPut(t, m, most, s, api.OK)
		wantCut(t, m, most, s, api.OK)
	}
	wantPut(t, m, len(s)-1, "", api.ErrLong)
	wantRead(t, s, m, api.OK)
	wantNoRead(t, s[:len(s)-1], api.ErrMore)
	if behind := s + "\x00"; len(behind) > mostOctets {
		wantNoRead(t, behind, api.ErrLong)
	} else {
		wantNoRead(t, behind, api.ErrBad)
	}
	if read, _ := message.Read(s); !message.Same(read, m) || !message.Same(m, read) {
		t.Errorf("Same: %s", show(m))
	}
}

// headers is headers whose flags and numbers go to their edges.
func headers() []api.Header {
	return []api.Header{
		{},
		{ID: 1, RD: true},
		{ID: 0xfffe, Response: true, Opcode: 15, AA: true, TC: true, RD: true, RA: true, AD: true, CD: true, Rcode: 15},
		{ID: 0x8000, Opcode: 5, TC: true, Rcode: 3},
		{ID: 256, Response: true, AA: true, RA: true, Rcode: 2},
	}
}

// someOfAll is a record of each type that is told, and of two that are not, with names that come again.
func someOfAll() []api.Record {
	soa := api.Data{Name: dots("ns.a.b"), Mail: dots("Root.a.b"), Nums: [5]uint32{1, 2, 3, 4, math.MaxUint32}}
	return []api.Record{
		a("www.a.b", 4),
		{Name: dots("www.a.b"), Type: 28, Class: 1, TTL: math.MaxUint32, Data: api.Data{Addr: api.Addr{Six: true, Hi: 0x0102030405060708, Lo: 0xfffefdfcfbfaf9f8}}},
		alias("x.a.b", "www.A.b"),
		{Name: dots("a.b"), Type: 2, Class: 3, Data: api.Data{Name: dots("ns.a.b")}},
		{Name: dots("4.3.2.1"), Type: 12, Class: 1, TTL: 1, Data: api.Data{Name: dots("WWW.a.b")}},
		{Name: dots("a.b"), Type: 6, Class: 65535, TTL: 1 << 31, Data: soa},
		{Name: dots("a.B"), Type: 15, Class: 1, Data: api.Data{Nums: [5]uint32{65535}, Name: dots("mx.a.b")}},
		{Name: "", Type: 16, Class: 0, Data: api.Data{Texts: []string{"x", "", strings.Repeat("y", 255)}}},
		{Name: dots("s.a.b"), Type: 33, Class: 1, Data: api.Data{Nums: [5]uint32{1, 2, 3}, Name: dots("www.a.b")}},
		raw("\x01a\x01b\x00"),
		{Name: great(254), Type: 65535, Class: 1, Data: api.Data{Raw: "\xc0\x0c"}},
		{Name: wire("\x00", "\xc0\x0c"), Type: 0, Class: 1},
	}
}

func someQuestions() []api.Question {
	return []api.Question{asks("www.a.b", 1), asks("A.b", 255), {}, {Name: great(254), Type: 65535, Class: 65535}, asks("www.a.b", 1)}
}

// samples is messages that may be: of no parts, of parts in one row alone, in some and in all.
func samples() []api.Message {
	var row []api.Message
	records, questions := someOfAll(), someQuestions()
	for i, h := range headers() {
		for bits := range 16 {
			m := api.Message{Header: h}
			if bits&1 != 0 {
				m.Questions = questions[:1+(i+bits)%len(questions)]
			}
			for j, list := range []*[]api.Record{&m.Answers, &m.Authority, &m.More} {
				if bits&(2<<j) != 0 {
					from := (i*5 + bits + j*3) % (len(records) - 2)
					*list = records[from : from+1+(i+bits+j)%3]
				}
			}
			row = append(row, counted(m))
		}
	}
	for i := range records {
		row = append(row, rows(nil, records[i:i+1], nil, nil), rows(nil, nil, records[i:i+1], nil), rows(nil, nil, nil, records[i:i+1]), rows(questions, records[i:], records[:i], records))
	}
	for i := range questions {
		row = append(row, rows(questions[i:i+1], nil, nil, nil), rows(questions[i:], nil, nil, nil))
	}
	return row
}

// The chapter's example.
func TestExample(t *testing.T) {
	m := message.Query(1, api.Question{Name: dots("a"), Type: 1, Class: 1}, true)
	wantPut(t, m, 512, "\x00\x01\x01\x00\x00\x01\x00\x00\x00\x00\x00\x00\x01a\x00\x00\x01\x00\x01", api.OK)
	wantMessage(t, m)
}

// P11.1 and P11.3: messages of all sorts, checked, sized, put, read, and held against each other.
func TestMessages(t *testing.T) {
	for _, m := range samples() {
		wantMessage(t, m)
		if t.Failed() {
			t.FailNow()
		}
	}
}

// P11.1: octets that are written out: names lead back to all that stands ahead, across the rows, case and all.
func TestOctets(t *testing.T) {
	for _, c := range []struct {
		m    api.Message
		s    string
		size int
	}{
		{api.Message{}, strings.Repeat("\x00", 12), 12},
		{
			rows([]api.Question{asks("a.b", 1)}, []api.Record{alias("a.b", "c.b")}, []api.Record{a("c.b", 4)}, []api.Record{a("C.b", 5)}),
			"\x01\x02\x81\x00\x00\x01\x00\x01\x00\x01\x00\x01" +
				"\x01a\x01b\x00\x00\x01\x00\x01" + // at 12, b at 14
				"\xc0\x0c\x00\x05\x00\x01\x00\x00\x00\x07\x00\x04\x01c\xc0\x0e" + // at 21, c.b at 33
				"\xc0\x21\x00\x01\x00\x01\x00\x00\x00\x3c\x00\x04\x01\x02\x03\x04" +
				"\x01C\xc0\x0e\x00\x01\x00\x01\x00\x00\x00\x3c\x00\x04\x01\x02\x03\x05",
			12 + 9 + 20 + 19 + 19,
		},
		{
			rows([]api.Question{asks("a", 1), asks("b.a", 2), asks("A", 1), {}}, nil, nil, nil),
			"\x01\x02\x81\x00\x00\x04\x00\x00\x00\x00\x00\x00" + "\x01a\x00\x00\x01\x00\x01" + "\x01b\xc0\x0c\x00\x02\x00\x01" + "\x01A\x00\x00\x01\x00\x01" + "\x00\x00\x00\x00\x00",
			12 + 7 + 9 + 7 + 5,
		},
		{
			rows(nil, nil, nil, []api.Record{raw(""), a("a", 1), a("a", 2)}),
			"\x01\x02\x81\x00\x00\x00\x00\x00\x00\x00\x00\x03" + "\x00\x00\x29\x04\xd0\x00\x00\x00\x00\x00\x00" + "\x01a\x00\x00\x01\x00\x01\x00\x00\x00\x3c\x00\x04\x01\x02\x03\x01" + "\xc0\x17\x00\x01\x00\x01\x00\x00\x00\x3c\x00\x04\x01\x02\x03\x02",
			12 + 11 + 17 + 17,
		},
	} {
		if octetsBy(c.m) != c.s {
			t.Errorf("the tests' own octets: %q, not %q", octetsBy(c.m), c.s)
		}
		wantPut(t, c.m, 512, c.s, api.OK)
		wantRead(t, c.s, c.m, api.OK)
		if size := message.Size(c.m); size != c.size {
			t.Errorf("Size: %d, not %d: %s", size, c.size, show(c.m))
		}
	}
}

// P11.1: ErrArg of other Counts, each of the four, whatever else the parts are; nothing is sized or put.
func TestOtherCounts(t *testing.T) {
	wrong := api.Record{Name: "\x00"}
	for _, m := range append(samples(), rows(nil, nil, nil, []api.Record{wrong}), rows([]api.Question{{Name: "\x00"}}, nil, nil, nil)) {
		for i := range 4 {
			for _, n := range []int{math.MinInt, -65536, -1, 0, 1, 2, 3, 65535, 65536, 65536 + m.Header.Counts[i], math.MaxInt, m.Header.Counts[i] + 1, m.Header.Counts[i] - 1, m.Header.Counts[(i+1)%4]} {
				other := m
				other.Header.Counts[i] = n
				if n != m.Header.Counts[i] {
					wantNone(t, other, api.ErrArg)
				}
			}
		}
	}
	m := rows(nil, []api.Record{a("a", 1)}, nil, nil)
	for _, counts := range [][4]int{{}, {1}, {0, 0, 1}, {0, 0, 0, 1}, {0, 1, 0, 1}, {0, 1, 1}, {1, 1}, {1, 0, 0, 0}} {
		m.Header.Counts = counts
		wantNone(t, m, api.ErrArg)
	}
}

// wantNone holds all calls of a message that may not be against its error.
func wantNone(t *testing.T, m api.Message, e api.Errno) {
	t.Helper()
	if got := message.Check(m); got != e {
		t.Errorf("Check: error %d, not %d: %s", got, e, show(m))
	}
	if size := message.Size(m); size != 0 {
		t.Errorf("Size: %d: %s", size, show(m))
	}
	for _, most := range []int{mostOctets, 512, 12, 0, -1, math.MaxInt} {
		wantPut(t, m, most, "", e)
		wantCut(t, m, most, "", e)
	}
}

// P11.1: rows of just as many parts as Counts have room for, and of one more.
func TestRowsOfManyParts(t *testing.T) {
	for _, n := range []int{65535, 65536} {
		for i, m := range []api.Message{rows(make([]api.Question, n), nil, nil, nil), rows(nil, make([]api.Record, n), nil, nil), rows(nil, nil, make([]api.Record, n), nil), rows(nil, nil, nil, make([]api.Record, n))} {
			if n > 65535 {
				wantNone(t, m, api.ErrArg)
				m.Header.Counts[i] = 0
				wantNone(t, m, api.ErrArg)
				continue
			}
			each := 11
			if i == 0 {
				each = 5
			}
			if e := message.Check(m); e != api.OK || message.Size(m) != 12+each*n {
				t.Errorf("row %d: error %d, size %d", i, e, message.Size(m))
			}
			wantPut(t, m, math.MaxInt, "", api.ErrLong)
			if i == 0 {
				wantCut(t, m, math.MaxInt, "", api.ErrLong)
				continue
			}
			s, e := message.Cut(m, math.MaxInt)
			m.Header.TC, m.Header.Counts[i] = true, 5956 // 12 + 11 * 5956 is 65,528
			ahead, _ := header.Put(m.Header)
			if e != api.OK || s != ahead+strings.Repeat("\x00", 11*5956) {
				t.Errorf("row %d: error %d, %s", i, e, short(s))
			}
		}
	}
}

// fault is what a part may have wrong, and its error.
type fault struct {
	r api.Record
	e api.Errno
}

func faults() []fault {
	return []fault{
		{api.Record{Name: "\x00"}, api.ErrBad},
		{api.Record{Name: great(255), Type: -1}, api.ErrLong},
		{api.Record{Type: 65536}, api.ErrArg},
		{api.Record{Class: -1}, api.ErrArg},
		{api.Record{Type: 1, Data: api.Data{Raw: "x"}}, api.ErrArg},
		{api.Record{Type: 5, Data: api.Data{Name: "\x01"}}, api.ErrBad},
		{raw(strings.Repeat("x", 65536)), api.ErrLong},
	}
}

// P11.1: the first part's error, row by row; header.Check's and ErrArg of other Counts are ahead. An ErrLong of a part is no matter of room: Cut lets nothing go for it.
func TestPartsThatMayNotBe(t *testing.T) {
	good := a("a.b", 1)
	all := faults()
	for _, f := range all {
		for _, g := range all {
			wantNone(t, rows(nil, []api.Record{f.r}, nil, []api.Record{g.r}), f.e)
			wantNone(t, rows(nil, []api.Record{good, f.r, g.r}, nil, nil), f.e)
			wantNone(t, rows(nil, nil, []api.Record{good, f.r}, []api.Record{g.r, good}), f.e)
			wantNone(t, rows([]api.Question{{}}, []api.Record{good}, []api.Record{f.r}, []api.Record{g.r}), f.e)
			wantNone(t, rows(nil, []api.Record{good, f.r}, []api.Record{g.r}, nil), f.e)
		}
		wantNone(t, rows(nil, nil, nil, []api.Record{good, good, f.r}), f.e)
		m := rows([]api.Question{asks("a", 1)}, nil, nil, []api.Record{f.r})
		wantNone(t, m, f.e)
		m.Header.Opcode = 16
		wantNone(t, m, api.ErrArg)
		m = rows([]api.Question{asks("a", 1), {Name: f.r.Name, Type: f.r.Type, Class: f.r.Class}}, []api.Record{f.r}, nil, nil)
		wantNone(t, m, f.e)
		m.Header.Counts[3]++
		wantNone(t, m, api.ErrArg)
		m.Header.Counts[3]--
		m.Header.Rcode = -1
		wantNone(t, m, api.ErrArg)
	}
	for _, c := range []struct {
		q api.Question
		e api.Errno
	}{{api.Question{Name: "\x02a"}, api.ErrBad}, {api.Question{Name: great(255)}, api.ErrLong}, {api.Question{Type: 65536}, api.ErrArg}, {api.Question{Class: -1}, api.ErrArg}} {
		for _, f := range all {
			wantNone(t, rows([]api.Question{{}, c.q, {Name: "\x00"}}, []api.Record{f.r}, nil, nil), c.e)
			wantNone(t, rows([]api.Question{c.q}, nil, nil, []api.Record{f.r}), c.e)
		}
		wantNone(t, rows([]api.Question{asks("a", 1), c.q}, nil, nil, nil), c.e)
	}
}

// P11.1: header.Check's error of each number that a header may not have.
func TestHeadersThatMayNotBe(t *testing.T) {
	for _, n := range []int{math.MinInt, -16, -1, 16, 17, 256, math.MaxInt} {
		m := rows([]api.Question{asks("a", 1)}, nil, nil, nil)
		m.Header.Opcode = n
		wantNone(t, m, api.ErrArg)
		m.Header.Opcode, m.Header.Rcode = 0, n
		wantNone(t, m, api.ErrArg)
	}
}

// P11.1: ErrLong of each room that is too little, down to none and below, and of what a message has no room for.
func TestRooms(t *testing.T) {
	for i, m := range samples() {
		s := octetsBy(m)
		for _, most := range noRooms {
			wantPut(t, m, most, "", api.ErrLong)
			wantCut(t, m, most, "", api.ErrLong)
		}
		for most := range len(s) + 2 {
			if most >= len(s) {
				wantPut(t, m, most, s, api.OK)
			} else if i%3 == 0 || most < 40 || most > len(s)-40 {
				wantPut(t, m, most, "", api.ErrLong)
			}
		}
		if t.Failed() {
			t.FailNow()
		}
	}
	const rest = mostOctets - ahead - 11
	for _, m := range []api.Message{rows(nil, []api.Record{raw(strings.Repeat("x", rest))}, nil, nil), rows([]api.Question{asks("a", 1)}, []api.Record{a("a", 1)}, nil, []api.Record{raw(strings.Repeat("x", rest-7-16))})} {
		if n := len(octetsBy(m)); n != mostOctets {
			t.Fatal(n)
		}
		wantMessage(t, m)
	}
	m := rows(nil, []api.Record{raw(strings.Repeat("x", rest+1))}, nil, nil)
	if e := message.Check(m); e != api.OK || message.Size(m) != mostOctets+1 {
		t.Errorf("error %d, size %d", e, message.Size(m))
	}
	for _, most := range greatRooms {
		wantPut(t, m, most, "", api.ErrLong)
		wantCut(t, m, most, "\x01\x02\x83\x00\x00\x00\x00\x00\x00\x00\x00\x00", api.OK)
	}
	vast := raw(strings.Repeat("x", mostOctets))
	if size := message.Size(rows(nil, []api.Record{vast, vast}, []api.Record{vast}, []api.Record{vast})); size != ahead+4*(11+mostOctets) {
		t.Errorf("Size of four that are vast: %d", size)
	}
}

// P11.1: without pointers it would be too long: room is for what is put.
func TestRoomIsForWhatIsPut(t *testing.T) {
	n := api.Record{Name: great(254), Type: 2, Class: 1, Data: api.Data{Name: great(254)}}
	m := rows(nil, slices.Repeat([]api.Record{n}, 1000), slices.Repeat([]api.Record{n}, 1000), slices.Repeat([]api.Record{n}, 2000))
	if size := message.Size(m); size != ahead+4000*(255+10+255) {
		t.Errorf("Size: %d", size)
	}
	if s := octetsBy(m); len(s) != ahead+255+10+2+3999*14 {
		t.Errorf("%d octets", len(s))
	}
	wantMessage(t, m)
}

// P11.1: octets that end too early, at each place, in the header, a question or a record; and octets left behind.
func TestReadOfOctetsThatEndElsewhere(t *testing.T) {
	for _, m := range samples() {
		s := octetsBy(m)
		for end := range len(s) {
			wantNoRead(t, s[:end], api.ErrMore)
		}
		for _, behind := range []string{"\x00", "\x40", "\xc0", "\xc0\x0c", "\x01a\x00\x00\x01\x00\x01", strings.Repeat("\x00", 11), s, strings.Repeat("x", mostOctets-len(s))} {
			wantNoRead(t, s+behind, api.ErrBad)
		}
		if t.Failed() {
			t.FailNow()
		}
	}
}

// P11.1: Counts of more and of fewer parts than there are.
func TestReadOfOtherCounts(t *testing.T) {
	s := octetsBy(rows([]api.Question{asks("a", 1), asks("b", 1)}, []api.Record{a("a", 1), a("b", 2)}, []api.Record{a("c", 1)}, []api.Record{a("d", 1), raw("x")}))
	read := 0
	for a := range 5 {
		for b := range 5 {
			for c := range 5 {
				for d := range 5 {
					_, e := wantModel(t, s[:4]+number(a, 2)+number(b, 2)+number(c, 2)+number(d, 2)+s[12:])
					if e == api.OK && a == 2 {
						read++
					}
				}
			}
		}
	}
	if read != 18 { // five records in three rows: 21 ways, but for the three with all in one
		t.Errorf("%d were read", read)
	}
	for i := range 4 {
		row := strings.Repeat("\x00\x00", i) + "\xff\xff" + strings.Repeat("\x00\x00", 3-i)
		wantNoRead(t, "\x00\x00\x00\x00"+row, api.ErrMore)
		wantNoRead(t, "\x00\x00\x00\x00"+row+strings.Repeat("\x00", mostOctets-12), api.ErrMore)
	}
}

// P11.1: ErrLong of more than MaxWire octets, whatever they are, ahead of all else; none of just so many.
func TestReadOfManyOctets(t *testing.T) {
	m := rows(nil, []api.Record{raw(strings.Repeat("x", mostOctets-ahead-11))}, nil, nil)
	wantRead(t, octetsBy(m), m, api.OK)
	for _, s := range []string{octetsBy(m) + "\x00", octetsBy(rows(nil, []api.Record{raw(strings.Repeat("x", mostOctets-ahead-11+1))}, nil, nil)), strings.Repeat("\xff", mostOctets+1), strings.Repeat("\x00", mostOctets+1), strings.Repeat("\x00", 1<<20)} {
		wantNoRead(t, s, api.ErrLong)
	}
	wantNoRead(t, strings.Repeat("\xff", mostOctets), api.ErrBad)
	wantNoRead(t, strings.Repeat("\x00", mostOctets), api.ErrBad)
}

// P11.1: header.Read's error ahead of the parts', those in their order, and what is left behind at the end.
func TestWhichErrorOfReadComesFirst(t *testing.T) {
	const (
		bad    = "\x00\x00\x00\x40" // an ID, and flags whose nought is none
		good   = "\x00\x00\x00\x00"
		ask    = "\x01a\x00\x00\x01\x00\x01"
		tell   = "\xc0\x0c\x00\x01\x00\x01\x00\x00\x00\x05\x00\x04\x01\x02\x03\x04"
		wrong  = "\x40\x00\x01\x00\x01"
		little = "\xc0\x0c\x00\x01\x00\x01\x00\x00\x00\x05\x00\x03\x01\x02\x03"
		much   = "\xc0\x0c\x00\x01\x00\x01\x00\x00\x00\x05\x00\x05\x01\x02\x03\x04\x05"
		one    = "\x00\x01"
		none   = "\x00\x00"
	)
	long := string(great(255)) + "\x00\x00\x01\x00\x01"
	for _, c := range []struct {
		s string
		e api.Errno
	}{
		{"", api.ErrMore}, {bad, api.ErrMore}, {bad + none + none + none + "\x00", api.ErrMore}, {bad + none + none + none + none, api.ErrBad}, {bad + one + none + none + none, api.ErrBad}, {bad + one + none + none + none + long, api.ErrBad},
		{good + none + none + none + none, api.OK}, {good + none + none + none + none + "\x00", api.ErrBad}, {good + none + none + none + none + long, api.ErrBad},
		{good + one + none + none + none + ask, api.OK}, {good + one + none + none + none, api.ErrMore}, {good + one + none + none + none + wrong, api.ErrBad}, {good + one + none + none + none + long, api.ErrLong}, {good + one + none + none + none + ask + long, api.ErrBad},
		{good + "\x00\x02" + none + none + none + ask + long, api.ErrLong}, {good + "\x00\x02" + none + none + none + ask + wrong, api.ErrBad}, {good + "\x00\x02" + none + none + none + ask, api.ErrMore}, {good + "\x00\x02" + none + none + none + wrong + long, api.ErrBad},
		{good + one + one + none + none + ask + tell, api.OK}, {good + one + none + one + none + ask + tell, api.OK}, {good + one + none + none + one + ask + tell, api.OK}, {good + one + one + none + none + ask + little, api.ErrMore}, {good + one + one + none + none + ask + much, api.ErrBad}, {good + one + one + none + none + long + much, api.ErrLong}, {good + one + one + none + none + wrong + little, api.ErrBad},
		{good + one + one + one + none + ask + little + much, api.ErrMore}, {good + one + one + one + none + ask + much + little, api.ErrBad}, {good + one + none + one + one + ask + little + much, api.ErrMore}, {good + one + none + one + one + ask + much + little, api.ErrBad}, {good + one + one + none + one + ask + tell + long, api.ErrLong}, {good + one + one + none + one + ask + tell + much + "\x00", api.ErrBad}, {good + one + one + none + one + ask + tell + little + "\x00", api.ErrMore},
		{good + one + one + one + one + ask + tell + tell + tell, api.OK}, {good + one + one + one + one + ask + tell + tell, api.ErrMore}, {good + one + one + one + one + ask + tell + tell + tell + tell, api.ErrBad}, {good + one + one + one + one + ask + tell + tell + "\xc0\x40" + tell[2:], api.ErrBad},
	} {
		m, e := wantModel(t, c.s)
		if e != c.e {
			t.Errorf("the tests' own model of %s: error %d, not %d", short(c.s), e, c.e)
		}
		wantRead(t, c.s, m, c.e)
	}
}

// P11.1: names lead back to all that stands ahead, the header's octets among it.
func TestReadNamesThatLeadBack(t *testing.T) {
	s := "\x01a\x00\x00\x00\x01\x00\x00\x00\x00\x00\x00" + "\xc0\x00\x00\x01\x00\x01"
	wantRead(t, s, api.Message{Header: api.Header{ID: 0x0161, Counts: [4]int{1}}, Questions: []api.Question{asks("a", 1)}}, api.OK)
	wantNoRead(t, s[:12]+"\xc0\x0c\x00\x01\x00\x01", api.ErrBad)
	wantNoRead(t, s[:12]+"\xc0\x0d\x00\x01\x00\x01", api.ErrBad)
	// Two that lead back one to the other, and so without end, if they might.
	wantNoRead(t, "\x00\x00\x00\x00\x00\x02\x00\x00\x00\x00\x00\x00\xc0\x12\x00\x01\x00\x01\xc0\x0c\x00\x01\x00\x01", api.ErrBad)
}

// P11.2: Query, with RD and without it, of what may be and what may not.
func TestQuery(t *testing.T) {
	for _, q := range append(someQuestions(), api.Question{Name: "\x00"}, api.Question{Name: great(255)}, api.Question{Name: dots("a"), Type: -1, Class: 65536}, api.Question{Name: dots("WwW.a"), Type: 28, Class: 3}) {
		for _, id := range []uint16{0, 1, 255, 256, 0x1234, 65535} {
			for _, rd := range []bool{false, true} {
				m := message.Query(id, q, rd)
				want := api.Message{Header: api.Header{ID: id, RD: rd, Counts: [4]int{1, 0, 0, 0}}, Questions: []api.Question{q}}
				if !like(m, want) {
					t.Errorf("Query: %s, not %s", show(m), show(want))
				}
				if e := record.CheckQuestion(q); e != api.OK {
					wantNone(t, m, e)
				} else {
					wantMessage(t, m)
				}
			}
		}
	}
}

// P11.2: Cut of each room there can be, against the model that tries one by one; what was cut is read.
func TestCut(t *testing.T) {
	for i, m := range samples() {
		s := octetsBy(m)
		for most := -1; most < len(s)+2; most++ {
			if i%4 != 0 && most%5 != 0 && most < len(s)-2 {
				continue
			}
			want, e := cutBy(m, most)
			wantCut(t, m, most, want, e)
			if e == api.OK && most < len(s) {
				if cut, e := message.Read(want); e != api.OK || !cut.Header.TC || len(want) > most {
					t.Errorf("error %d, %s", e, show(cut))
				}
			}
		}
		if t.Failed() {
			t.FailNow()
		}
	}
}

// P11.2: row by row, what goes first: More from its end, then Authority, then Answers; the questions stay.
func TestCutRowByRow(t *testing.T) {
	m := rows([]api.Question{asks("a.b", 1)}, []api.Record{a("a.b", 1), a("a.b", 2)}, []api.Record{a("a.b", 3), a("a.b", 4)}, []api.Record{a("a.b", 5), a("a.b", 6)})
	const (
		id   = "\x01\x02"
		ask  = "\x01a\x01b\x00\x00\x01\x00\x01"
		each = "\xc0\x0c\x00\x01\x00\x01\x00\x00\x00\x3c\x00\x04\x01\x02\x03"
		none = ahead + 9
		size = 16
	)
	for n, counts := range []string{
		"\x00\x01\x00\x00\x00\x00\x00\x00",
		"\x00\x01\x00\x01\x00\x00\x00\x00",
		"\x00\x01\x00\x02\x00\x00\x00\x00",
		"\x00\x01\x00\x02\x00\x01\x00\x00",
		"\x00\x01\x00\x02\x00\x02\x00\x00",
		"\x00\x01\x00\x02\x00\x02\x00\x01",
		"\x00\x01\x00\x02\x00\x02\x00\x02",
	} {
		flags := "\x83\x00"
		if n == 6 {
			flags = "\x81\x00"
		}
		s := id + flags + counts + ask
		for i := range n {
			s += each + string([]byte{byte(1 + i)})
		}
		for most := none + n*size; most < none+(n+1)*size; most++ {
			wantCut(t, m, most, s, api.OK)
		}
	}
	for most := -2; most < none; most++ {
		wantCut(t, m, most, "", api.ErrLong)
	}
	only := rows(m.Questions, nil, nil, nil)
	wantCut(t, only, none, octetsBy(only), api.OK)
	wantCut(t, only, none-1, "", api.ErrLong)
	wantCut(t, rows(nil, nil, nil, m.More), ahead, "\x01\x02\x83\x00\x00\x00\x00\x00\x00\x00\x00\x00", api.OK)
	wantCut(t, rows(nil, nil, nil, m.More), ahead-1, "", api.ErrLong)
}

// P11.2: a short record at the end doesn't stand in for a long one ahead of it, and TC stays as it is where all fits.
func TestCutLetsGoFromTheEnd(t *testing.T) {
	m := rows(nil, []api.Record{raw("x")}, []api.Record{raw(strings.Repeat("y", 100))}, []api.Record{raw(""), raw("")})
	want := rows(nil, m.Answers, nil, nil)
	want.Header.TC = true
	for most := ahead + 12; most < ahead+12+111; most++ {
		wantCut(t, m, most, octetsBy(want), api.OK)
	}
	for _, tc := range []bool{false, true} {
		m.Header.TC = tc
		wantCut(t, m, len(octetsBy(m)), octetsBy(m), api.OK)
		wantCut(t, m, ahead+12, octetsBy(want), api.OK)
	}
}

// P11.2: many records, of which some have no room: it ends, and soon.
func TestCutOfMany(t *testing.T) {
	row := make([]api.Record, 65535)
	for i := range row {
		row[i] = a("a.b", byte(i))
	}
	m := rows([]api.Question{asks("a.b", 1)}, row, row, row)
	for _, most := range []int{512, mostOctets, math.MaxInt} {
		n := (min(most, mostOctets) - ahead - 9) / 16
		want := rows(m.Questions, row[:n], nil, nil)
		want.Header.TC = true
		wantCut(t, m, most, octetsBy(want), api.OK)
	}
	small := rows(m.Questions, row[:10], row[:20], row)
	want := rows(m.Questions, row[:10], row[:20], row[:4064])
	want.Header.TC = true
	wantCut(t, small, mostOctets, octetsBy(want), api.OK)
}

// variants is messages that differ from the first in one part alone.
func variants() []api.Message {
	all := func() api.Message {
		return deep(api.Message{
			Header:    api.Header{ID: 1, Response: true, Opcode: 2, AA: true, RD: true, AD: true, Rcode: 3, Counts: [4]int{2, 2, 1, 1}},
			Questions: []api.Question{asks("a.b", 1), asks("c", 2)},
			Answers:   []api.Record{a("a.b", 1), {Name: dots("a.b"), Type: 16, Data: api.Data{Texts: []string{"x", "y"}}}},
			Authority: []api.Record{alias("a", "b")},
			More:      []api.Record{raw("r")},
		})
	}
	row := []api.Message{all()}
	for _, set := range []func(m *api.Message){
		func(m *api.Message) { m.Header.ID = 2 },
		func(m *api.Message) { m.Header.Response = false },
		func(m *api.Message) { m.Header.Opcode = 3 },
		func(m *api.Message) { m.Header.AA = false },
		func(m *api.Message) { m.Header.TC = true },
		func(m *api.Message) { m.Header.RD = false },
		func(m *api.Message) { m.Header.RA = true },
		func(m *api.Message) { m.Header.AD = false },
		func(m *api.Message) { m.Header.CD = true },
		func(m *api.Message) { m.Header.Rcode = -3 },
		func(m *api.Message) { m.Header.Counts[0] = 1 },
		func(m *api.Message) { m.Header.Counts[3] = 0 },
		func(m *api.Message) { m.Questions[0].Name = dots("A.b") },
		func(m *api.Message) { m.Questions[1].Type = 1 },
		func(m *api.Message) { m.Questions[1].Class = 2 },
		func(m *api.Message) { m.Questions = m.Questions[:1] },
		func(m *api.Message) { m.Questions = append(m.Questions, api.Question{}) },
		func(m *api.Message) { slices.Reverse(m.Questions) },
		func(m *api.Message) { m.Questions = nil },
		func(m *api.Message) { m.Answers[0].Name = dots("a.B") },
		func(m *api.Message) { m.Answers[0].TTL++ },
		func(m *api.Message) { m.Answers[1].Data.Texts[1] = "Y" },
		func(m *api.Message) { m.Answers[1].Data.Texts = m.Answers[1].Data.Texts[:1] },
		func(m *api.Message) { m.Answers = m.Answers[:1] },
		func(m *api.Message) { m.Answers = append(m.Answers, api.Record{}) },
		func(m *api.Message) { slices.Reverse(m.Answers) },
		func(m *api.Message) { m.Answers = nil },
		func(m *api.Message) { m.Authority[0].Data.Name = dots("B") },
		func(m *api.Message) { m.Authority[0].Class = 3 },
		func(m *api.Message) { m.Authority = nil },
		func(m *api.Message) { m.Authority = append(m.Authority, m.Authority[0]) },
		func(m *api.Message) { m.More[0].Data.Raw = "R" },
		func(m *api.Message) { m.More[0].Type = 42 },
		func(m *api.Message) { m.More = nil },
		func(m *api.Message) { m.More = append(m.More, m.More[0]) },
		func(m *api.Message) { m.Authority, m.More = m.More, m.Authority },
		func(m *api.Message) { m.Answers, m.Authority = m.Authority, m.Answers },
	} {
		m := all()
		set(&m)
		row = append(row, m)
	}
	return append(row, api.Message{})
}

// P11.1: Same of what differs in one part alone, case, too, whether it may be or not; a nil list and an empty one are the same.
func TestSame(t *testing.T) {
	again := variants()
	for i, a := range variants() {
		for j, b := range again {
			if message.Same(a, b) != (i == j) {
				t.Errorf("Same: %v: %s and %s", i != j, show(a), show(b))
			}
		}
	}
	empty := api.Message{Questions: []api.Question{}, Answers: make([]api.Record, 0, 3), Authority: []api.Record{}, More: []api.Record{}}
	if !message.Same(empty, api.Message{}) || !message.Same(api.Message{}, empty) {
		t.Error("no parts and no parts")
	}
}

// draws is a row of numbers as good as drawn, the same each time.
type draws struct{ state uint32 }

func (d *draws) below(n int) int {
	d.state = d.state*1664525 + 1013904223
	return int(d.state>>8) % n
}

// name is one of many names whose rests are often alike, some of them long.
func (d *draws) name() api.Name {
	var row []string
	for range d.below(6) {
		l := string([]byte{"abAB"[d.below(4)]})
		if d.below(9) == 0 {
			l = strings.Repeat(l, 1+d.below(40))
		}
		row = append(row, l)
	}
	return wire(row...)
}

func (d *draws) record(all []api.Record) api.Record {
	r := all[d.below(len(all))]
	r.Name, r.Class, r.TTL = d.name(), d.below(65536), uint32(d.below(1<<24))<<d.below(9)
	if r.Data.Name != "" {
		r.Data.Name = d.name()
	}
	if r.Data.Mail != "" {
		r.Data.Mail = d.name()
	}
	return r
}

// message is one of many that may be, of so many parts in a row at most.
func (d *draws) message(parts int) api.Message {
	h := headers()
	m := api.Message{Header: h[d.below(len(h))]}
	for range d.below(parts + 1) {
		m.Questions = append(m.Questions, api.Question{Name: d.name(), Type: d.below(65536), Class: d.below(65536)})
	}
	all := someOfAll()
	for _, row := range []*[]api.Record{&m.Answers, &m.Authority, &m.More} {
		for range d.below(parts + 1) {
			*row = append(*row, d.record(all))
		}
	}
	return counted(m)
}

// P11.1 to P11.3: messages as good as drawn, small ones and some beyond 2^14 octets; cut to rooms as good as drawn.
func TestDrawnMessages(t *testing.T) {
	beyond := 0
	for seed := range 300 {
		d := &draws{uint32(seed)}
		parts, rooms := 4, 8
		if seed%60 == 0 {
			parts, rooms = 300, 1
		}
		m := d.message(parts)
		wantMessage(t, m)
		s := octetsBy(m)
		if len(s) > reach {
			beyond++
		}
		for range rooms {
			most := d.below(len(s) + 1)
			want, e := cutBy(m, most)
			wantCut(t, m, most, want, e)
		}
		if t.Failed() {
			t.Fatalf("seed %d", seed)
		}
	}
	if beyond == 0 {
		t.Error("none is beyond 2^14 octets")
	}
}

// P11.3: messages with octets that are others: what is read may be, and is read again of what it is put as.
func TestReadOfOctetsThatAreOthers(t *testing.T) {
	read := 0
	for _, m := range samples() {
		s := octetsBy(m)
		if len(s) > 180 {
			continue
		}
		for at := range len(s) {
			for _, other := range []byte{0, 1, 2, 5, 6, 12, 15, 16, 28, 33, 63, 64, 192, 255} {
				b := []byte(s)
				b[at] = other
				got, e := wantModel(t, string(b))
				if e == api.OK {
					read++
					wantAgain(t, got)
				}
			}
		}
		if t.Failed() {
			t.FailNow()
		}
	}
	if read < 1000 {
		t.Errorf("%d alone were read", read)
	}
}

// wantAgain holds what was read against what it is put as, and read as again.
func wantAgain(t *testing.T, m api.Message) {
	t.Helper()
	if e := message.Check(m); e != api.OK {
		t.Errorf("what was read may not be: error %d, %s", e, show(m))
		return
	}
	s, e := message.Put(m, mostOctets)
	if e != api.OK {
		t.Errorf("what was read isn't put: error %d, %s", e, show(m))
		return
	}
	if again, e := message.Read(s); e != api.OK || !message.Same(again, m) || len(s) > message.Size(m) {
		t.Errorf("error %d; %s, not %s", e, show(again), show(m))
	}
}

// P11.3: Read ends on all octets: on rows as good as drawn, and on all short ones behind a header.
func TestReadOfAnyOctets(t *testing.T) {
	d := &draws{7}
	for range 20000 {
		b := make([]byte, d.below(80))
		for i := range b {
			b[i] = "\x00\x00\x00\x01\x01\x02\x04\x0c\x3f\x40\xc0\xffabc"[d.below(15)]
		}
		if m, e := wantModel(t, string(b)); e == api.OK {
			wantAgain(t, m)
		}
	}
	var grow func(head, s string)
	grow = func(head, s string) {
		if m, e := wantModel(t, head+s); e == api.OK {
			wantAgain(t, m)
		}
		if len(s) < 6 {
			for _, c := range "\x00\x01\x0ca" {
				grow(head, s+string([]byte{byte(c)}))
			}
			grow(head, s+"\xc0")
		}
	}
	for _, counts := range []string{"\x00\x01\x00\x00\x00\x00\x00\x00", "\x00\x00\x00\x00\x00\x01\x00\x00", "\x00\x02\x00\x00\x00\x00\x00\x00"} {
		grow("\x00\x00\x00\x00"+counts, "")
	}
}

// P11.3: names that lead back again and again, from one to the one before: it ends, and soon.
func TestReadOfLongWaysBack(t *testing.T) {
	var b []byte
	b = append(b, "\x00\x00\x00\x00\x00\x00\x00\x00\x00\x00\x10\x00"...)
	b = append(b, "\x00\x00\x29\x00\x01\x00\x00\x00\x00\x20\x00"...)
	at := len(b)
	b = append(b, "\x00\x00"...)
	for i := at; len(b) < at+8192; i += 2 {
		b = append(b, number(0xc000+i, 2)...)
	}
	last := number(0xc000+len(b)-2, 2)
	for range 4095 {
		b = append(b, last+"\x00\x29\x00\x01\x00\x00\x00\x00\x00\x00"...)
	}
	m, e := message.Read(string(b))
	if e != api.OK || len(m.More) != 4096 {
		t.Errorf("error %d, %d records", e, len(m.More))
	}
}

// DOC.md's rule 3: what is handed in stays as it was, its spare room, too, and nothing of it is answered.
func TestMemory(t *testing.T) {
	make1 := func() (api.Message, func() []any) {
		questions := append(make([]api.Question, 0, 4), asks("a.b", 1), asks("c", 1), asks("spare", 1))
		lists := [][]api.Record{nil, nil, nil}
		for i := range lists {
			lists[i] = append(make([]api.Record, 0, 5), a("a.b", byte(i)), api.Record{Name: dots("t"), Type: 16, Data: api.Data{Texts: []string{"x", "y"}}}, a("a.b", 9), a("spare", 1))
		}
		m := rows(questions[:2], lists[0][:3], lists[1][:3], lists[2][:3])
		return m, func() []any {
			return []any{questions[:4], lists[0][:5], lists[1][:5], lists[2][:5], m}
		}
	}
	m, all := make1()
	_, as := make1()
	before := fmt.Sprint(as())
	message.Check(m)
	message.Size(m)
	message.Same(m, m)
	s := octetsBy(m)
	for most := range len(s) + 1 {
		message.Put(m, most)
		message.Cut(m, most)
		if after := fmt.Sprint(all()); after != before {
			t.Fatalf("%d octets: %s, not %s", most, after, before)
		}
	}
	if message.Query(1, m.Questions[0], true); fmt.Sprint(all()) != before {
		t.Error("Query")
	}
	one, _ := message.Read(s)
	two, _ := message.Read(s)
	for _, row := range []*[]api.Record{&one.Answers, &one.Authority, &one.More} {
		for i := range (*row)[:cap(*row)] {
			r := &(*row)[:cap(*row)][i]
			for j := range r.Data.Texts {
				r.Data.Texts[j] = "W"
			}
			*r = api.Record{Name: "\x01W"}
		}
		if !like(two, m) {
			t.Fatalf("%s, not %s", show(two), show(m))
		}
	}
	for i := range one.Questions[:cap(one.Questions)] {
		one.Questions[:cap(one.Questions)][i] = api.Question{}
	}
	wantRead(t, s, two, api.OK)
	if !like(two, m) {
		t.Errorf("%s, not %s", show(two), show(m))
	}
}

// DOC.md's rule 3: no two lists of one answer share any, their spare room neither.
func TestListsOfOneAnswerShareNone(t *testing.T) {
	for n := range 9 {
		row := slices.Repeat([]api.Record{{Type: 16, Data: api.Data{Texts: []string{"x", "y", "z"}}}}, n)
		m := rows(nil, row, row, row)
		got, e := message.Read(octetsBy(m))
		if e != api.OK {
			t.Fatal(e)
		}
		lists := []*[]api.Record{&got.Answers, &got.Authority, &got.More}
		for i, row := range lists {
			for range 3 {
				*row = append(*row, api.Record{Class: i})
			}
			for j := range (*row)[:n] {
				(*row)[j].Data.Texts = append((*row)[j].Data.Texts[:2], "Z")
				(*row)[j].Class = 10*i + j
			}
		}
		for i, list := range lists {
			for j, r := range *list {
				if j < n && r.Class != 10*i+j || j >= n && r.Class != i {
					t.Errorf("row %d, record %d: class %d", i, j, r.Class)
				}
			}
		}
	}
}
