package header_test

import (
	"fmt"
	"math"
	"strconv"
	"strings"
	"testing"

	"nameplate/api"
	"nameplate/header"
)

// flag is a flag: how many bits of the second two octets are ahead of it, and its field.
type flag struct {
	ahead int
	of    func(*api.Header) *bool
}

func flags() []flag {
	return []flag{
		{0, func(h *api.Header) *bool { return &h.Response }},
		{5, func(h *api.Header) *bool { return &h.AA }},
		{6, func(h *api.Header) *bool { return &h.TC }},
		{7, func(h *api.Header) *bool { return &h.RD }},
		{8, func(h *api.Header) *bool { return &h.RA }},
		{10, func(h *api.Header) *bool { return &h.AD }},
		{11, func(h *api.Header) *bool { return &h.CD }},
	}
}

// noughtAhead is how many of those bits are ahead of the one that is a nought.
const noughtAhead = 9

// octetsOf is the octets whose bits a text of 0 and 1 has.
func octetsOf(bits string) string {
	var row []byte
	for ; bits != ""; bits = bits[8:] {
		v, err := strconv.ParseUint(bits[:8], 2, 8)
		if err != nil {
			panic(err)
		}
		row = append(row, byte(v))
	}
	return string(row)
}

// bitsOf is the bits of octets, as a text of 0 and 1.
func bitsOf(row string) string {
	bits := ""
	for _, c := range []byte(row) {
		bits += fmt.Sprintf("%08b", c)
	}
	return bits
}

// written is a header that may be as its octets, by the tests' own reckoning, bit by bit.
func written(h api.Header) string {
	middle := []byte(fmt.Sprintf("0%04b0000000%04b", h.Opcode, h.Rcode))
	for _, f := range flags() {
		if *f.of(&h) {
			middle[f.ahead] = '1'
		}
	}
	bits := fmt.Sprintf("%016b", h.ID) + string(middle)
	for _, n := range h.Counts {
		bits += fmt.Sprintf("%016b", n)
	}
	return octetsOf(bits)
}

// read is what Read of octets should answer, by the tests' own reckoning, bit by bit.
func read(s string) (api.Header, api.Errno) {
	if len(s) < 12 {
		return api.Header{}, api.ErrMore
	}
	bits := bitsOf(s[:12])
	number := func(from, n int) int {
		v, err := strconv.ParseUint(bits[from:from+n], 2, 16)
		if err != nil {
			panic(err)
		}
		return int(v)
	}
	if number(16+noughtAhead, 1) != 0 {
		return api.Header{}, api.ErrBad
	}
	h := api.Header{ID: uint16(number(0, 16)), Opcode: number(17, 4), Rcode: number(28, 4)}
	for _, f := range flags() {
		*f.of(&h) = number(16+f.ahead, 1) == 1
	}
	for i := range h.Counts {
		h.Counts[i] = number(32+16*i, 16)
	}
	return h, api.OK
}

// full is a header of all flags, and the greatest numbers.
func full() api.Header {
	return api.Header{ID: 65535, Response: true, Opcode: 15, AA: true, TC: true, RD: true, RA: true, AD: true, CD: true, Rcode: 15, Counts: [4]int{65535, 65535, 65535, 65535}}
}

// some is a few headers that may be.
func some() []api.Header {
	return []api.Header{
		{},
		full(),
		{ID: 1, RD: true, Counts: [4]int{1, 0, 0, 0}},
		{ID: 0x1234, Response: true, Opcode: 0, AA: true, RD: true, RA: true, Rcode: 3, Counts: [4]int{1, 2, 3, 4}},
		{ID: 0xfffe, Opcode: 10, TC: true, AD: true, Rcode: 5, Counts: [4]int{0x0102, 0x8001, 0x00ff, 0xff00}},
		{ID: 0x8000, Response: true, Opcode: 5, CD: true, Rcode: 10, Counts: [4]int{0, 65535, 0, 32768}},
	}
}

// good is headers that may be: some, with each number at its edges, and each row of flags.
func good() []api.Header {
	var row []api.Header
	for _, h := range some() {
		for n := range 16 {
			op, r := h, h
			op.Opcode, r.Rcode = n, n
			row = append(row, op, r)
		}
		for _, n := range []int{0, 1, 127, 128, 255, 256, 257, 258, 4660, 32767, 32768, 65279, 65280, 65534, 65535} {
			id := h
			id.ID = uint16(n)
			row = append(row, id)
			for i := range h.Counts {
				c := h
				c.Counts[i] = n
				row = append(row, c)
			}
		}
		for set := range 1 << len(flags()) {
			with := h
			for i, f := range flags() {
				*f.of(&with) = set>>i&1 == 1
			}
			row = append(row, with)
		}
	}
	return row
}

// wrongCodes is numbers that no Opcode and no Rcode is; many of them would be one if they went round.
func wrongCodes() []int {
	return []int{-1, -2, -15, -16, -17, -256, math.MinInt32, -1 << 32, math.MinInt, math.MinInt + 1, 16, 17, 31, 32, 255, 256, 257, 65535, 65536, 1 << 31, 1<<32 - 1, 1 << 32, 1<<32 + 1, 1<<32 + 15, math.MaxInt - 1, math.MaxInt}
}

// wrongCounts is numbers that no count is, likewise.
func wrongCounts() []int {
	return []int{-1, -2, -65535, -65536, -65537, math.MinInt32, -1 << 32, math.MinInt, math.MinInt + 1, 65536, 65537, 131071, 131072, 1<<24 - 1, 1 << 31, 1<<32 - 1, 1 << 32, 1<<32 + 1, 1<<32 + 65535, math.MaxInt - 1, math.MaxInt}
}

// bad is headers that may not be: with one wrong number, or with several.
func bad() []api.Header {
	var row []api.Header
	for _, h := range some() {
		for _, n := range wrongCodes() {
			op, r, both := h, h, h
			op.Opcode, r.Rcode = n, n
			both.Opcode, both.Rcode = n, n
			row = append(row, op, r, both)
		}
		for _, n := range wrongCounts() {
			for i := range h.Counts {
				c := h
				c.Counts[i] = n
				row = append(row, c)
			}
			all := h
			all.Counts = [4]int{n, n, n, n}
			row = append(row, all)
		}
		worst := h
		worst.Opcode, worst.Rcode, worst.Counts = -1, 16, [4]int{65536, -1, 65536, -1}
		row = append(row, worst)
	}
	return row
}

func checkPut(t *testing.T, h api.Header, want string) {
	t.Helper()
	if s, e := header.Put(h); s != want || e != api.OK {
		t.Errorf("Put of %+v: % x, %d, not % x", h, s, e, want)
	}
}

func checkRead(t *testing.T, s string, want api.Header, wantError api.Errno) {
	t.Helper()
	if h, e := header.Read(s); h != want || e != wantError {
		t.Errorf("Read of % x: %+v, %d, not %+v, %d", s, h, e, want, wantError)
	}
}

// The chapter's example.
func TestExample(t *testing.T) {
	const s = "\x00\x01\x01\x00\x00\x01\x00\x00\x00\x00\x00\x00"
	h := api.Header{ID: 1, RD: true, Counts: [4]int{1, 0, 0, 0}}
	checkPut(t, h, s)
	checkRead(t, s, h, api.OK)
}

// P6.1: Check.
func TestCheck(t *testing.T) {
	for _, h := range good() {
		if e := header.Check(h); e != api.OK {
			t.Errorf("Check of %+v: %d", h, e)
		}
	}
	for _, h := range bad() {
		if e := header.Check(h); e != api.ErrArg {
			t.Errorf("Check of %+v: %d", h, e)
		}
	}
}

// P6.1: Check, at the edges of each number alone.
func TestCheckAtTheEdges(t *testing.T) {
	for n, want := range map[int]api.Errno{-1: api.ErrArg, 0: api.OK, 1: api.OK, 14: api.OK, 15: api.OK, 16: api.ErrArg} {
		if e := header.Check(api.Header{Opcode: n}); e != want {
			t.Errorf("Check of Opcode %d: %d", n, e)
		}
		if e := header.Check(api.Header{Rcode: n}); e != want {
			t.Errorf("Check of Rcode %d: %d", n, e)
		}
	}
	for n, want := range map[int]api.Errno{-1: api.ErrArg, 0: api.OK, 1: api.OK, 65534: api.OK, 65535: api.OK, 65536: api.ErrArg} {
		for i := range 4 {
			h := api.Header{}
			h.Counts[i] = n
			if e := header.Check(h); e != want {
				t.Errorf("Check of count %d of %d: %d", i, n, e)
			}
		}
	}
}

// P6.1: Put.
func TestPut(t *testing.T) {
	checkPut(t, api.Header{}, strings.Repeat("\x00", 12))
	checkPut(t, full(), "\xff\xff\xff\xbf\xff\xff\xff\xff\xff\xff\xff\xff")
	checkPut(t, api.Header{ID: 65535}, "\xff\xff"+strings.Repeat("\x00", 10))
	checkPut(t, api.Header{ID: 0x0102, Counts: [4]int{0x0304, 0x0506, 0x0708, 0x090a}}, "\x01\x02\x00\x00\x03\x04\x05\x06\x07\x08\x09\x0a")
	for _, h := range good() {
		checkPut(t, h, written(h))
	}
}

// P6.1: Put of what may not be.
func TestPutOfWrongHeaders(t *testing.T) {
	for _, h := range bad() {
		if s, e := header.Put(h); s != "" || e != api.ErrArg {
			t.Errorf("Put of %+v: % x, %d", h, s, e)
		}
	}
}

// P6.1: each flag, and each bit of Opcode and Rcode, alone, in the two octets of flags.
func TestEachFlagAlone(t *testing.T) {
	for want, h := range map[string]api.Header{
		"\x80\x00": {Response: true},
		"\x40\x00": {Opcode: 8},
		"\x20\x00": {Opcode: 4},
		"\x10\x00": {Opcode: 2},
		"\x08\x00": {Opcode: 1},
		"\x78\x00": {Opcode: 15},
		"\x04\x00": {AA: true},
		"\x02\x00": {TC: true},
		"\x01\x00": {RD: true},
		"\x00\x80": {RA: true},
		"\x00\x20": {AD: true},
		"\x00\x10": {CD: true},
		"\x00\x08": {Rcode: 8},
		"\x00\x04": {Rcode: 4},
		"\x00\x02": {Rcode: 2},
		"\x00\x01": {Rcode: 1},
		"\x00\x0f": {Rcode: 15},
		"\x87\xb0": {Response: true, AA: true, TC: true, RD: true, RA: true, AD: true, CD: true},
	} {
		s := "\x00\x00" + want + strings.Repeat("\x00", 8)
		checkPut(t, h, s)
		checkRead(t, s, h, api.OK)
	}
}

// P6.1: Read, of each two octets of flags: those with the bit that is a nought, too.
func TestReadsEachRowOfFlags(t *testing.T) {
	odd := 0
	for v := range 1 << 16 {
		s := "\x12\x34" + octetsOf(fmt.Sprintf("%016b", v)) + "\x00\x01\x02\x00\x00\xff\xff\x00"
		h, e := read(s)
		checkRead(t, s, h, e)
		if e == api.ErrBad {
			odd++
			continue
		}
		checkPut(t, h, s)
	}
	if odd != 1<<15 {
		t.Errorf("%d rows of flags have the bit that is a nought", odd)
	}
}

// P6.1: Read, of the bit that is a nought.
func TestReadsNoOddBit(t *testing.T) {
	for _, s := range []string{
		"\x00\x00\x00\x40" + strings.Repeat("\x00", 8),
		strings.Repeat("\xff", 12),
		strings.Repeat("\xff", 100),
		"\x00\x01\x01\x40\x00\x01\x00\x00\x00\x00\x00\x00",
	} {
		checkRead(t, s, api.Header{}, api.ErrBad)
	}
	for _, h := range good() {
		s := []byte(written(h))
		s[3] |= 0x40
		checkRead(t, string(s), api.Header{}, api.ErrBad)
	}
}

// P6.1: Read of too few octets, whatever they are.
func TestReadsTooFew(t *testing.T) {
	for _, h := range good() {
		for n := range 12 {
			checkRead(t, written(h)[:n], api.Header{}, api.ErrMore)
		}
	}
	for n := range 12 {
		checkRead(t, strings.Repeat("\xff", n), api.Header{}, api.ErrMore)
		checkRead(t, strings.Repeat("\x40", n), api.Header{}, api.ErrMore)
	}
}

// P6.1: what is behind the twelfth octet does not matter to Read.
func TestReadsWhatIsAheadAlone(t *testing.T) {
	for _, h := range good() {
		for _, behind := range []string{"", "\x00", "\xff", "\x40", "a", "\x00\x00\x00\x40", written(full()), strings.Repeat("\xff", 500)} {
			checkRead(t, written(h)+behind, h, api.OK)
		}
	}
	checkRead(t, written(full())+strings.Repeat("\xff", 100_000), full(), api.OK)
	for c := range 256 {
		checkRead(t, written(full())+string([]byte{byte(c)}), full(), api.OK)
	}
}

// P6.1: Read, of each single octet turned into each other one.
func TestReadsEachOctetTurned(t *testing.T) {
	for _, h := range some() {
		for at := range 12 {
			s := []byte(written(h))
			for c := range 256 {
				s[at] = byte(c)
				want, e := read(string(s))
				checkRead(t, string(s), want, e)
				if e != api.OK {
					continue
				}
				checkPut(t, want, string(s))
				if same := string(s) == written(h); same != (want == h) {
					t.Errorf("octet %d of %+v turned into %d: told as %+v", at, h, c, want)
				}
			}
		}
	}
}

// P6.2: Read of Put, and Put of what was read.
func TestReadOfPut(t *testing.T) {
	for _, h := range good() {
		s, e := header.Put(h)
		if len(s) != 12 || e != api.OK {
			t.Errorf("Put of %+v: %d octets, %d", h, len(s), e)
		}
		checkRead(t, s, h, api.OK)
		again, e := header.Read(s)
		if e != api.OK || header.Check(again) != api.OK {
			t.Errorf("Read of Put of %+v: %+v, %d, which Check answers %d", h, again, e, header.Check(again))
		}
		checkPut(t, again, s)
	}
}

func checkReply(t *testing.T, h api.Header, rcode, want int) {
	t.Helper()
	r := header.Reply(h, rcode)
	if r != (api.Header{ID: h.ID, Response: true, Opcode: h.Opcode, RD: h.RD, RA: true, CD: h.CD, Rcode: want}) {
		t.Errorf("Reply of %+v, %d: %+v", h, rcode, r)
	}
}

// P6.1: Reply, by what of it is told by hand.
func TestReplyOfAQuery(t *testing.T) {
	query := api.Header{ID: 7, RD: true, Counts: [4]int{1, 0, 0, 1}}
	if r := header.Reply(query, api.RcodeName); r != (api.Header{ID: 7, Response: true, RD: true, RA: true, Rcode: 3}) {
		t.Errorf("Reply of %+v: %+v", query, r)
	}
	if r := header.Reply(full(), api.RcodeNotImp); r != (api.Header{ID: 65535, Response: true, Opcode: 15, RD: true, RA: true, CD: true, Rcode: 4}) {
		t.Errorf("Reply of a full header: %+v", r)
	}
	if r := header.Reply(api.Header{}, api.RcodeOK); r != (api.Header{Response: true, RA: true}) {
		t.Errorf("Reply of the zero header: %+v", r)
	}
}

// P6.1: Reply, of answers too, and of headers of all flags and counts.
func TestReply(t *testing.T) {
	for _, h := range good() {
		for rcode, want := range map[int]int{0: 0, 1: 1, 3: 3, 15: 15, 16: 0, 31: 15, -1: 15} {
			checkReply(t, h, rcode, want)
		}
		if r := header.Reply(h, 5); header.Check(r) != api.OK || header.Reply(r, 5) != r {
			t.Errorf("Reply of %+v: %+v, to which Reply is %+v", h, r, header.Reply(r, 5))
		}
	}
}

// P6.1: Reply's Rcode is modulo sixteen, and not below 0.
func TestReplyOfEachRcode(t *testing.T) {
	h := api.Header{ID: 9, Opcode: 2, CD: true, Rcode: 6}
	for rcode := -70_000; rcode <= 70_000; rcode++ {
		checkReply(t, h, rcode, (rcode+80_000)%16)
	}
	for rcode, want := range map[int]int{
		math.MinInt: 0, math.MinInt + 1: 1, math.MinInt + 15: 15, math.MaxInt: 15, math.MaxInt - 1: 14,
		math.MinInt32: 0, math.MinInt32 - 1: 15, math.MaxInt32: 15, 1 << 31: 0, 1<<32 + 3: 3, -1<<32 - 3: 13, 16: 0, 17: 1, 31: 15, 32: 0, -1: 15, -15: 1, -16: 0, -17: 15,
	} {
		checkReply(t, h, rcode, want)
	}
}

// P6.1: Reply of a header that may not be has its Opcode all the same, and nothing of its counts and its Rcode.
func TestReplyOfWrongHeaders(t *testing.T) {
	for _, h := range bad() {
		checkReply(t, h, 0, 0)
		checkReply(t, h, 15, 15)
		checkReply(t, h, 16, 0)
		checkReply(t, h, 31, 15)
		checkReply(t, h, -1, 15)
		checkReply(t, h, h.Rcode, ((h.Rcode%16)+16)%16)
	}
	for _, n := range wrongCodes() {
		if r := header.Reply(api.Header{Opcode: n, Rcode: n}, 2); r != (api.Header{Response: true, Opcode: n, RA: true, Rcode: 2}) {
			t.Errorf("Reply of Opcode and Rcode %d: %+v", n, r)
		}
	}
}
