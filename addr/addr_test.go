package addr_test

import (
	"cmp"
	"math"
	"math/big"
	"net/netip"
	"slices"
	"strconv"
	"strings"
	"testing"

	"nameplate/addr"
	"nameplate/api"
	"nameplate/name"
)

func elder(lo uint64) api.Addr { return api.Addr{Lo: lo} }

func newer(hi, lo uint64) api.Addr { return api.Addr{Six: true, Hi: hi, Lo: lo} }

// ofGroups is the newer address of eight groups.
func ofGroups(g ...uint16) api.Addr {
	a := newer(0, 0)
	for i, v := range g {
		if i < 4 {
			a.Hi += uint64(v) << (48 - 16*i)
		} else {
			a.Lo += uint64(v) << (112 - 16*i)
		}
	}
	return a
}

// edges is a row of numbers of 64 bits about which something changes.
func edges() []uint64 {
	row := []uint64{0, 1, 2, 9, 10, 11, 99, 100, 101, 254, 0x0102030405060708, 0x8070605040302010, 0xdeadbeefcafef00d, 0x20010db800000000}
	for shift := 4; shift < 64; shift += 4 {
		v := uint64(1) << shift
		row = append(row, v-1, v, v+1)
	}
	return append(row, 1<<63-1, 1<<63, math.MaxUint64-1, math.MaxUint64)
}

// good is a row of addresses that may be.
func good() []api.Addr {
	var row []api.Addr
	for _, v := range edges() {
		if v <= math.MaxUint32 {
			row = append(row, elder(v))
		}
		for _, w := range edges() {
			row = append(row, newer(v, w))
		}
	}
	for i := range 4 {
		for c := range 256 {
			row = append(row, elder(uint64(c)<<(8*i)), elder(0x01020304&^(255<<(8*i))|uint64(c)<<(8*i)))
		}
	}
	return append(row, noughts()...)
}

// noughts is newer addresses with noughts in each choice of groups.
func noughts() []api.Addr {
	var row []api.Addr
	for mask := range 256 {
		for _, full := range []uint16{1, 0x10, 0xabc, 0xffff} {
			g := make([]uint16, 8)
			for i := range g {
				if mask>>i&1 == 0 {
					g[i] = full
				}
			}
			row = append(row, ofGroups(g...))
		}
	}
	return row
}

// bad is a row of addresses that may not be.
func bad() []api.Addr {
	var row []api.Addr
	for _, v := range edges() {
		if v > math.MaxUint32 {
			row = append(row, elder(v))
		}
		if v == 0 {
			continue
		}
		row = append(row, api.Addr{Hi: v}, api.Addr{Hi: v, Lo: 1}, api.Addr{Hi: v, Lo: math.MaxUint32}, api.Addr{Hi: v, Lo: v})
	}
	return row
}

// P4.1: Check.
func TestCheck(t *testing.T) {
	for _, a := range good() {
		if e := addr.Check(a); e != api.OK {
			t.Errorf("Check of %v: %d", a, e)
		}
	}
	for _, a := range bad() {
		if e := addr.Check(a); e != api.ErrArg {
			t.Errorf("Check of %v: %d", a, e)
		}
	}
	for a, want := range map[api.Addr]api.Errno{
		{}:                       api.OK,
		{Lo: 1<<32 - 1}:          api.OK,
		{Lo: 1 << 32}:            api.ErrArg,
		{Hi: 1}:                  api.ErrArg,
		{Hi: 1, Lo: 1}:           api.ErrArg,
		{Hi: 1 << 63}:            api.ErrArg,
		{Lo: 1 << 63}:            api.ErrArg,
		{Six: true}:              api.OK,
		{Six: true, Lo: 1 << 32}: api.OK,
		{Six: true, Hi: 1}:       api.OK,
		{Six: true, Hi: 1<<64 - 1, Lo: 1<<64 - 1}:   api.OK,
		{Six: false, Hi: 1<<64 - 1, Lo: 1<<64 - 1}:  api.ErrArg,
		{Six: false, Hi: 1<<64 - 1, Lo: 0x7f000001}: api.ErrArg,
	} {
		if e := addr.Check(a); e != want {
			t.Errorf("Check of %v: %d, not %d", a, e, want)
		}
	}
}

// P4.1: Four.
func TestFour(t *testing.T) {
	for _, c := range []struct {
		a, b, c, d byte
		want       uint64
	}{
		{0, 0, 0, 0, 0}, {0, 0, 0, 1, 1}, {0, 0, 1, 0, 1 << 8}, {0, 1, 0, 0, 1 << 16}, {1, 0, 0, 0, 1 << 24},
		{1, 2, 3, 4, 0x01020304}, {10, 0, 0, 1, 0x0a000001}, {192, 168, 255, 254, 0xc0a8fffe}, {128, 0, 0, 0, 1 << 31}, {255, 255, 255, 255, 1<<32 - 1},
	} {
		if a := addr.Four(c.a, c.b, c.c, c.d); a != elder(c.want) {
			t.Errorf("Four of %v: %v", c, a)
		}
	}
}

func checkRead(t *testing.T, s string, want api.Addr) {
	t.Helper()
	if a, e := addr.Read(s); e != api.OK || a != want {
		t.Errorf("Read of %q: %v, %d, not %v", s, a, e, want)
	}
}

func checkNoText(t *testing.T, s string) {
	t.Helper()
	if a, e := addr.Read(s); e != api.ErrText || a != (api.Addr{}) {
		t.Errorf("Read of %.80q: %v, %d", s, a, e)
	}
}

// P4.1: Read of elder texts.
func TestReadsElder(t *testing.T) {
	for s, lo := range map[string]uint64{
		"0.0.0.0": 0, "0.0.0.1": 1, "1.2.3.4": 0x01020304, "10.0.0.1": 0x0a000001, "127.0.0.1": 0x7f000001, "9.10.99.100": 0x090a6364,
		"192.168.0.254": 0xc0a800fe, "255.255.255.255": 1<<32 - 1, "249.250.199.200": 0xf9fac7c8, "100.101.110.20": 0x64656e14,
	} {
		checkRead(t, s, elder(lo))
	}
	for n := range 256 {
		for at := range 4 {
			row := []string{"7", "0", "200", "31"}
			row[at] = strconv.Itoa(n)
			octets := []byte{7, 0, 200, 31}
			octets[at] = byte(n)
			checkRead(t, strings.Join(row, "."), addr.Four(octets[0], octets[1], octets[2], octets[3]))
		}
	}
}

// wrongNumbers is a row of texts that are no number of an elder address.
func wrongNumbers() []string {
	row := []string{
		"", "00", "01", "000", "001", "007", "010", "0255", "0000", "256", "257", "260", "300", "999", "1000", "2550", "65536", "4294967296", "18446744073709551616", "18446744073709551617",
		"-1", "+1", "-0", "+0", " 1", "1 ", "1_0", "_1", "1e1", "0x1", "0b1", "0o1", "a", "1a", "f", "ff", "A", "１", "²", "\x00", "1\x00", "*", "1/8", "1,", "1\n", "%1",
	}
	for c := range 256 {
		if s := string([]byte{byte(c)}); !strings.Contains("0123456789.", s) {
			row = append(row, s, "1"+s)
		}
	}
	return row
}

func TestReadNoElder(t *testing.T) {
	for _, n := range wrongNumbers() {
		for at := range 4 {
			row := []string{"1", "2", "3", "4"}
			row[at] = n
			checkNoText(t, strings.Join(row, "."))
		}
	}
	for _, s := range []string{
		"", ".", "..", "...", "....", "1", "1.2", "1.2.3", "1.2.3.4.5", "1.2.3.4.", ".1.2.3.4", ".1.2.3", "1.2.3.", "1..2.3", "1..3.4", "1.2..4", "1...4", "1.2.3..4",
		"0", "255", "16909060", "0x01020304", "1.2.3.4.5.6", "1.2.3.4 ", " 1.2.3.4", "1.2.3.4\n", "1.2.3.4/32", "1.2.3.4%eth0", "1,2,3,4", "1.2.3.4a", "a.b.c.d", "localhost",
		strings.Repeat("1.", 100_000) + "1", strings.Repeat(".", 100_000), strings.Repeat("1", 100_000), "1.2.3." + strings.Repeat("0", 100_000),
	} {
		checkNoText(t, s)
	}
}

// P4.1: Read of newer texts.
func TestReadsNewer(t *testing.T) {
	for s, want := range map[string]api.Addr{
		"::":              newer(0, 0),
		"::1":             newer(0, 1),
		"1::":             ofGroups(1),
		"1::2":            ofGroups(1, 0, 0, 0, 0, 0, 0, 2),
		"1:0:0:2:0:0:0:3": ofGroups(1, 0, 0, 2, 0, 0, 0, 3),
		"1:0:0:2::3":      ofGroups(1, 0, 0, 2, 0, 0, 0, 3),
		"1::2:0:0:0:3":    ofGroups(1, 0, 0, 2, 0, 0, 0, 3),
		"1:2:3:4:5:6:7:8": ofGroups(1, 2, 3, 4, 5, 6, 7, 8),
		"0:0:0:0:0:0:0:0": newer(0, 0),
		"0000:0000:0000:0000:0000:0000:0000:0000": newer(0, 0),
		"0001:0020:0300:4000:05:060:7:8":          ofGroups(1, 0x20, 0x300, 0x4000, 5, 0x60, 7, 8),
		"ffff:ffff:ffff:ffff:ffff:ffff:ffff:ffff": newer(math.MaxUint64, math.MaxUint64),
		"FFFF:ffff:FfFf:fFfF:FFFF:ffff:FFFf:Ffff": newer(math.MaxUint64, math.MaxUint64),
		"2001:DB8::aBcD:9":                        ofGroups(0x2001, 0xdb8, 0, 0, 0, 0, 0xabcd, 9),
		"fe80::1":                                 ofGroups(0xfe80, 0, 0, 0, 0, 0, 0, 1),
		"::2:3:4:5:6:7:8":                         ofGroups(0, 2, 3, 4, 5, 6, 7, 8),
		"1:2:3::5:6:7:8":                          ofGroups(1, 2, 3, 0, 5, 6, 7, 8),
		"1:2:3:4:5:6:7::":                         ofGroups(1, 2, 3, 4, 5, 6, 7, 0),
		"::0":                                     newer(0, 0),
		"0::":                                     newer(0, 0),
		"0::0":                                    newer(0, 0),
		"::1.2.3.4":                               ofGroups(0, 0, 0, 0, 0, 0, 0x102, 0x304),
		"::ffff:1.2.3.4":                          ofGroups(0, 0, 0, 0, 0, 0xffff, 0x102, 0x304),
		"64:ff9b::255.255.255.255":                ofGroups(0x64, 0xff9b, 0, 0, 0, 0, 0xffff, 0xffff),
		"1:2:3:4:5:6:7.8.9.10":                    ofGroups(1, 2, 3, 4, 5, 6, 0x708, 0x90a),
		"1:2:3:4:5::7.8.9.10":                     ofGroups(1, 2, 3, 4, 5, 0, 0x708, 0x90a),
		"::2:3:4:5:6:7.8.9.10":                    ofGroups(0, 2, 3, 4, 5, 6, 0x708, 0x90a),
		"::0.0.0.0":                               newer(0, 0),
		"0:0:0:0:0:0:0.0.0.0":                     newer(0, 0),
		"::0.1.0.16":                              ofGroups(0, 0, 0, 0, 0, 0, 1, 0x10),
	} {
		checkRead(t, s, want)
	}
}

func TestReadNoNewer(t *testing.T) {
	for _, s := range []string{
		":", ":::", "::::", ":1", "1:", ":1:2:3:4:5:6:7:8", "1:2:3:4:5:6:7:8:", ":1:2:3:4:5:6:7", "1:2:3:4:5:6:7:", ":1::", "::1:", ":::1", "1:::", "1:::2", "1::2:", ":1::2",
		"1", "1:2", "1:2:3:4:5:6:7", "1:2:3:4:5:6:7:8:9", "1::2::3", "::1::", "::::1", "1::::2", "::2::", "0::0::0",
		"::1:2:3:4:5:6:7:8", "1:2:3:4:5:6:7:8::", "1:2:3:4::5:6:7:8", "1::2:3:4:5:6:7:8", "1:2:3:4:5:6:7::8", "::1:2:3:4:5:6:7:8:9",
		"1.2.3.4::", "1.2.3.4:1:2:3:4:5:6", "::1.2.3.4:5", "1:1.2.3.4::", "::1.2.3.4:5.6.7.8", "1:2:3:4:5:1.2.3.4:6", "1:2:3:4:5:6:7:1.2.3.4", "1:2:3:4:5:1.2.3.4", "1:2:3:4:5:6::1.2.3.4", "1.2.3.4:", ":1.2.3.4", "1.2.3.4::1.2.3.4", "::1.2.3.4::",
		"::1.2.3", "::1.2.3.4.5", "::1.2.3.", "::.1.2.3", "::.", "::1.2.3.04", "::01.2.3.4", "::1.2.3.256", "::a.2.3.4", "::1..3.4", "::1.2.3.4.",
		"::1%eth0", "::1/128", "[::1]", " ::1", "::1 ", "::\n", "::1\x00", "fe80::%", "g::", "::G", "::-1", "::+1", "::0x1", "::1_2", "::1:\uff11", "1:2:3:4:5:6:7:8 ", "1;2;3;4;5;6;7;8",
		strings.Repeat("1:", 100_000) + "1", strings.Repeat(":", 100_000), strings.Repeat("1", 100_000) + "::", "::" + strings.Repeat("1:", 100_000) + "1", strings.Repeat("1::", 100_000), "::" + strings.Repeat("1.", 100_000), strings.Repeat("1:", 100_000) + "1.2.3.4",
	} {
		checkNoText(t, s)
	}
}

// Each octet as a group, alone and behind a digit: by sixteen are 0 to 9, a to f, A to F, nothing else.
func TestReadsDigitsAlone(t *testing.T) {
	const low, great = "0123456789abcdef", "0123456789ABCDEF"
	for c := range 256 {
		s := string([]byte{byte(c)})
		if s == ":" || s == "." {
			continue
		}
		v := max(strings.Index(low, s), strings.Index(great, s))
		for text, want := range map[string]api.Addr{
			"::" + s:                  newer(0, uint64(max(v, 0))),
			"::1" + s:                 newer(0, 16+uint64(max(v, 0))),
			s + "::":                  newer(uint64(max(v, 0))<<48, 0),
			"1:2:3:" + s + ":5:6:7:8": ofGroups(1, 2, 3, uint16(max(v, 0)), 5, 6, 7, 8),
		} {
			if v < 0 {
				checkNoText(t, text)
			} else {
				checkRead(t, text, want)
			}
		}
	}
}

// One to four digits a group, in each place; none and five are none.
func TestReadsGroupsOfDigits(t *testing.T) {
	groups := map[string]uint16{"0": 0, "00": 0, "000": 0, "0000": 0, "1": 1, "01": 1, "001": 1, "0001": 1, "a": 10, "A": 10, "1F": 31, "fFf": 0xfff, "BeeF": 0xbeef, "9999": 0x9999, "10": 16, "100": 256, "1000": 4096}
	wrong := []string{"", "00000", "00001", "12345", "10000", "fffff", "000000000000000000001", "g", "-1", "+1", "0x1", " 1", "1 ", "1_0", "é"}
	for at := range 8 {
		row := []string{"1", "2", "3", "4", "5", "6", "7", "8"}
		want := []uint16{1, 2, 3, 4, 5, 6, 7, 8}
		for s, v := range groups {
			row[at], want[at] = s, v
			checkRead(t, strings.Join(row, ":"), ofGroups(want...))
		}
		for _, s := range wrong {
			row[at] = s
			if s == "" && 0 < at && at < 7 { // a :: in the place of one group
				want[at] = 0
				checkRead(t, strings.Join(row, ":"), ofGroups(want...))
				continue
			}
			checkNoText(t, strings.Join(row, ":"))
		}
	}
}

// Each number of groups ahead of a :: and behind it, and without one, with an elder text at the end and without.
func TestReadsEachShape(t *testing.T) {
	for ahead := range 11 {
		for behind := range 11 {
			for _, gap := range []bool{false, true} {
				for _, mixed := range []bool{false, true} {
					checkShape(t, ahead, behind, gap, mixed)
				}
			}
		}
	}
}

func checkShape(t *testing.T, ahead, behind int, gap, mixed bool) {
	t.Helper()
	count := func(from, n int) []string {
		var row []string
		for i := range n {
			row = append(row, strconv.FormatInt(int64(from+i), 16))
		}
		return row
	}
	first, last := count(1, ahead), count(0x11, behind)
	if mixed {
		last = append(last, "1.2.3.4")
	}
	s := strings.Join(first, ":") + "::" + strings.Join(last, ":")
	if !gap {
		s = strings.Join(append(first, last...), ":")
	}
	all := ahead + behind
	if mixed {
		all += 2
	}
	if gap && all > 7 || !gap && all != 8 {
		if !gap && mixed && all == 2 { // an elder text alone
			checkRead(t, s, addr.Four(1, 2, 3, 4))
			return
		}
		checkNoText(t, s)
		return
	}
	g := make([]uint16, 8)
	for i := range ahead {
		g[i] = uint16(1 + i)
	}
	for i := range behind {
		g[i+8-all+ahead] = uint16(0x11 + i)
	}
	if mixed {
		g[6], g[7] = 0x102, 0x304
	}
	checkRead(t, s, ofGroups(g...))
}

// fromNetip is what the library reads, which knows of zones too.
func fromNetip(s string) (api.Addr, bool) {
	a, err := netip.ParseAddr(s)
	if err != nil || a.Zone() != "" {
		return api.Addr{}, false
	}
	v := newer(0, 0)
	v.Six = a.Is6()
	for _, c := range a.AsSlice() {
		v.Hi = v.Hi<<8 | v.Lo>>56
		v.Lo = v.Lo<<8 | uint64(c)
	}
	return v, true
}

func checkAsNetip(t *testing.T, s string) {
	t.Helper()
	if want, is := fromNetip(s); is {
		checkRead(t, s, want)
	} else {
		checkNoText(t, s)
	}
}

// Each row of a few pieces is read as the library reads it.
func TestReadsEachRowOfPieces(t *testing.T) {
	pieces := []string{":", "::", ".", "0", "1", "aF", "256", "1.2.3.4", "1:2:3:4:5", "1:2:3:4:5:6:7"}
	rows := []string{""}
	for range 5 {
		var longer []string
		for _, s := range rows {
			for _, p := range pieces {
				longer = append(longer, s+p)
			}
		}
		for _, s := range longer {
			checkAsNetip(t, s)
		}
		rows = longer
	}
}

// Each text with one octet put in, taken out, or in another's place is read as the library reads it.
func TestReadsEachSlip(t *testing.T) {
	for _, s := range []string{"1.2.3.4", "255.0.10.199", "1:2:3:4:5:6:7:8", "ffff:0fff:ff:f:FFFF:FFF:FF:F", "1::8", "::", "::1", "1::", "1:2:3::7:8", "1:2:3:4:5:6:1.2.3.4", "::ffff:10.20.30.255", "1:2:3:4:5:6:7::"} {
		for at := range len(s) + 1 {
			for c := range 256 {
				checkAsNetip(t, s[:at]+string([]byte{byte(c)})+s[at:])
				if at < len(s) {
					checkAsNetip(t, s[:at]+string([]byte{byte(c)})+s[at+1:])
				}
			}
			checkAsNetip(t, s[:at])
			checkAsNetip(t, s[at:])
			for end := at; end <= len(s); end++ {
				checkAsNetip(t, s[:at]+s[end:])
				checkAsNetip(t, s[:at]+s[at:end]+s[at:])
			}
		}
	}
}

func checkText(t *testing.T, a api.Addr, want string) {
	t.Helper()
	if s, e := addr.Text(a); e != api.OK || s != want {
		t.Errorf("Text of %v: %q, %d, not %q", a, s, e, want)
	}
}

// P4.1: Text.
func TestTexts(t *testing.T) {
	for want, a := range map[string]api.Addr{
		"0.0.0.0":         elder(0),
		"1.2.3.4":         elder(0x01020304),
		"10.0.0.1":        elder(0x0a000001),
		"255.255.255.255": elder(1<<32 - 1),
		"9.10.99.100":     elder(0x090a6364),
		"::":              newer(0, 0),
		"::1":             newer(0, 1),
		"1::":             ofGroups(1),
		"::1:0":           newer(0, 1<<16),
		"1:2:3:4:5:6:7:8": ofGroups(1, 2, 3, 4, 5, 6, 7, 8),
		"ffff:ffff:ffff:ffff:ffff:ffff:ffff:ffff": newer(math.MaxUint64, math.MaxUint64),
		"2001:db8::abcd:9":                        ofGroups(0x2001, 0xdb8, 0, 0, 0, 0, 0xabcd, 9),
		"1:10:100:1000:f:f0:f00:f000":             ofGroups(1, 0x10, 0x100, 0x1000, 0xf, 0xf0, 0xf00, 0xf000),
		// The elder text is not written, even where it is read.
		"::102:304":      newer(0, 0x01020304),
		"::ffff:102:304": newer(0, 0xffff01020304),
		"::ffff:0:0":     newer(0, 0xffff00000000),
		// One group of noughts alone.
		"0:2:3:4:5:6:7:8": ofGroups(0, 2, 3, 4, 5, 6, 7, 8),
		"1:2:3:0:5:6:7:8": ofGroups(1, 2, 3, 0, 5, 6, 7, 8),
		"1:2:3:4:5:6:7:0": ofGroups(1, 2, 3, 4, 5, 6, 7, 0),
		"1:0:3:0:5:0:7:0": ofGroups(1, 0, 3, 0, 5, 0, 7, 0),
		// Two runs as long as each other.
		"::3:4:0:0:7:8": ofGroups(0, 0, 3, 4, 0, 0, 7, 8),
		"1::4:0:0:7:8":  ofGroups(1, 0, 0, 4, 0, 0, 7, 8),
		"1::4:5:6:0:0":  ofGroups(1, 0, 0, 4, 5, 6, 0, 0),
		"::4:5:0:0:0":   ofGroups(0, 0, 0, 4, 5, 0, 0, 0),
		"::3:0:0:6:0:0": ofGroups(0, 0, 3, 0, 0, 6, 0, 0),
		// A longer run behind a shorter one, and ahead of one.
		"1:0:0:2::3":    ofGroups(1, 0, 0, 2, 0, 0, 0, 3),
		"1::5:0:0:8":    ofGroups(1, 0, 0, 0, 5, 0, 0, 8),
		"0:2::5:0:7:8":  ofGroups(0, 2, 0, 0, 5, 0, 7, 8),
		"0:0:3:0:5::":   ofGroups(0, 0, 3, 0, 5, 0, 0, 0),
		"0:2:0:4::7:8":  ofGroups(0, 2, 0, 4, 0, 0, 7, 8),
		"0:0:3::":       ofGroups(0, 0, 3),
		"1:2:3:4:5:6::": ofGroups(1, 2, 3, 4, 5, 6),
		"::3:4:5:6:7:8": ofGroups(0, 0, 3, 4, 5, 6, 7, 8),
		"::8":           ofGroups(0, 0, 0, 0, 0, 0, 0, 8),
	} {
		checkText(t, a, want)
	}
}

// groupText is the text of eight groups: each run is tried, the longest ahead.
func groupText(g []uint16) string {
	var row []string
	for _, v := range g {
		row = append(row, strconv.FormatInt(int64(v), 16))
	}
	for long := 8; long >= 2; long-- {
		for at := 0; at+long <= 8; at++ {
			if !slices.ContainsFunc(g[at:at+long], func(v uint16) bool { return v != 0 }) {
				return strings.Join(row[:at], ":") + "::" + strings.Join(row[at+long:], ":")
			}
		}
	}
	return strings.Join(row, ":")
}

func TestTextOfEachChoiceOfNoughts(t *testing.T) {
	for mask := range 256 {
		for _, row := range [][]uint16{{1, 2, 3, 4, 5, 6, 7, 8}, {0x10, 0xab0, 0xffff, 1, 0xa, 0x8000, 0x100, 0xc0de}} {
			g := slices.Clone(row)
			for i := range g {
				if mask>>i&1 == 1 {
					g[i] = 0
				}
			}
			checkText(t, ofGroups(g...), groupText(g))
		}
	}
}

func TestTextOfEachElder(t *testing.T) {
	for _, a := range good() {
		if !a.Six {
			want := netip.AddrFrom4([4]byte{byte(a.Lo >> 24), byte(a.Lo >> 16), byte(a.Lo >> 8), byte(a.Lo)}).String()
			checkText(t, a, want)
		}
	}
}

// What may not be has no text, no octets, no name, and none behind it.
func TestOfWhatMayNotBe(t *testing.T) {
	for _, a := range bad() {
		if s, e := addr.Text(a); e != api.ErrArg || s != "" {
			t.Errorf("Text of %v: %q, %d", a, s, e)
		}
		if s, e := addr.Octets(a); e != api.ErrArg || s != "" {
			t.Errorf("Octets of %v: %q, %d", a, s, e)
		}
		if n, e := addr.Reverse(a); e != api.ErrArg || n != "" {
			t.Errorf("Reverse of %v: %q, %d", a, n, e)
		}
		for _, n := range edges() {
			checkNoSum(t, a, n)
		}
	}
}

// P4.2: Octets and Of.
func TestOctets(t *testing.T) {
	for want, a := range map[string]api.Addr{
		"\x00\x00\x00\x00":         elder(0),
		"\x01\x02\x03\x04":         elder(0x01020304),
		"\xff\xff\xff\xff":         elder(1<<32 - 1),
		"\x00\x00\x00\x01":         elder(1),
		"\x80\x00\x00\x00":         elder(1 << 31),
		strings.Repeat("\x00", 16): newer(0, 0),
		strings.Repeat("\xff", 16): newer(math.MaxUint64, math.MaxUint64),
		"\x00\x01\x02\x03\x04\x05\x06\x07\x08\x09\x0a\x0b\x0c\x0d\x0e\x0f": newer(0x0001020304050607, 0x08090a0b0c0d0e0f),
		strings.Repeat("\x00", 12) + "\x01\x02\x03\x04":                    newer(0, 0x01020304),
		"\x80" + strings.Repeat("\x00", 15):                                newer(1<<63, 0),
		strings.Repeat("\x00", 7) + "\x01" + strings.Repeat("\x00", 8):     newer(1, 0),
		strings.Repeat("\x00", 8) + "\x80" + strings.Repeat("\x00", 7):     newer(0, 1<<63),
	} {
		if s, e := addr.Octets(a); e != api.OK || s != want {
			t.Errorf("Octets of %v: %q, %d", a, s, e)
		}
		if got, e := addr.Of(want); e != api.OK || got != a {
			t.Errorf("Of of %q: %v, %d", want, got, e)
		}
	}
}

func TestOfEachLength(t *testing.T) {
	for n := range 300 {
		for _, c := range []string{"\x00", "\x01", "\xff", ":"} {
			a, e := addr.Of(strings.Repeat(c, n))
			switch {
			case n == 4 || n == 16:
				if e != api.OK || a.Six != (n == 16) {
					t.Errorf("Of of %d octets: %v, %d", n, a, e)
				}
			case e != api.ErrArg || a != (api.Addr{}):
				t.Errorf("Of of %d octets: %v, %d", n, a, e)
			}
		}
	}
}

// P4.2: Compare.
func TestCompare(t *testing.T) {
	order := []api.Addr{
		{}, {Lo: 1}, {Lo: 2}, {Lo: 255}, {Lo: 256}, {Lo: 1 << 31}, {Lo: 1<<32 - 1},
		{Lo: 1 << 32}, {Lo: 1 << 63}, {Lo: math.MaxUint64}, {Hi: 1}, {Hi: 1, Lo: 1}, {Hi: 1 << 63}, {Hi: math.MaxUint64}, {Hi: math.MaxUint64, Lo: math.MaxUint64},
		{Six: true}, {Six: true, Lo: 1}, {Six: true, Lo: 1<<32 - 1}, {Six: true, Lo: 1 << 32}, {Six: true, Lo: 1<<63 - 1}, {Six: true, Lo: 1 << 63}, {Six: true, Lo: math.MaxUint64},
		{Six: true, Hi: 1}, {Six: true, Hi: 1, Lo: math.MaxUint64}, {Six: true, Hi: 2}, {Six: true, Hi: 1<<63 - 1}, {Six: true, Hi: 1 << 63}, {Six: true, Hi: 1 << 63, Lo: 5}, {Six: true, Hi: math.MaxUint64}, {Six: true, Hi: math.MaxUint64, Lo: math.MaxUint64},
	}
	for i, a := range order {
		for j, b := range order {
			if got := addr.Compare(a, b); got != cmp.Compare(i, j) {
				t.Errorf("Compare of %v, %v: %d", a, b, got)
			}
		}
	}
}

func number(a api.Addr) *big.Int {
	v := new(big.Int).SetUint64(a.Hi)
	return v.Lsh(v, 64).Add(v, new(big.Int).SetUint64(a.Lo))
}

func checkSum(t *testing.T, a api.Addr, n uint64, want api.Addr) {
	t.Helper()
	if got, is := addr.Add(a, n); !is || got != want {
		t.Errorf("Add of %v, %d: %v, %t, not %v", a, n, got, is, want)
	}
}

func checkNoSum(t *testing.T, a api.Addr, n uint64) {
	t.Helper()
	if got, is := addr.Add(a, n); is || got != (api.Addr{}) {
		t.Errorf("Add of %v, %d: %v, %t", a, n, got, is)
	}
}

// P4.2: Add.
func TestAdd(t *testing.T) {
	const all = math.MaxUint64
	for _, c := range []struct {
		a    api.Addr
		n    uint64
		want api.Addr
	}{
		{elder(0), 0, elder(0)}, {elder(0), 1, elder(1)}, {addr.Four(10, 0, 0, 255), 1, addr.Four(10, 0, 1, 0)},
		{elder(0), 1<<32 - 1, elder(1<<32 - 1)}, {elder(1<<32 - 1), 0, elder(1<<32 - 1)}, {elder(1<<32 - 2), 1, elder(1<<32 - 1)}, {elder(1 << 31), 1<<31 - 1, elder(1<<32 - 1)},
		{newer(0, 0), 0, newer(0, 0)}, {newer(0, 1<<32-1), 1, newer(0, 1<<32)}, {newer(0, 0), all, newer(0, all)},
		{newer(0, all), 1, newer(1, 0)}, {newer(0, all), all, newer(1, all-1)}, {newer(7, 1), all, newer(8, 0)}, {newer(7, 1<<63), 1 << 63, newer(8, 0)}, {newer(7, 1<<63), 1<<63 - 1, newer(7, all)},
		{newer(all-1, all), 1, newer(all, 0)}, {newer(all-1, all), all, newer(all, all-1)}, {newer(all, 0), all, newer(all, all)}, {newer(all, all-1), 1, newer(all, all)}, {newer(all, all), 0, newer(all, all)}, {newer(all, 1), all - 1, newer(all, all)},
	} {
		checkSum(t, c.a, c.n, c.want)
	}
	for _, c := range []struct {
		a api.Addr
		n uint64
	}{
		{elder(0), 1 << 32}, {elder(1<<32 - 1), 1}, {elder(1<<32 - 2), 2}, {elder(1), 1<<32 - 1}, {elder(1), all}, {elder(0), all}, {elder(1<<32 - 1), all}, {elder(1<<32 - 1), all - (1<<32 - 2)}, {elder(1 << 31), 1 << 31}, {elder(5), all - 4}, {elder(5), all - 3},
		{newer(all, all), 1}, {newer(all, all), all}, {newer(all, all-1), 2}, {newer(all, 1), all}, {newer(all, 1<<63), 1 << 63},
		{api.Addr{Hi: 1}, 0}, {api.Addr{Lo: 1 << 32}, 0}, {api.Addr{Lo: all}, 1}, {api.Addr{Hi: all, Lo: all}, 1}, {api.Addr{Lo: 1 << 32}, all - (1<<32 - 1) + 1},
	} {
		checkNoSum(t, c.a, c.n)
	}
}

// Sums are those of numbers as long as need be.
func TestSums(t *testing.T) {
	for _, a := range good() {
		last := new(big.Int).SetUint64(math.MaxUint32)
		if a.Six {
			last.Sub(new(big.Int).Lsh(big.NewInt(1), 128), big.NewInt(1))
		}
		for _, n := range edges() {
			want := new(big.Int).SetUint64(n)
			want.Add(want, number(a))
			got, is := addr.Add(a, n)
			if want.Cmp(last) > 0 {
				if is || got != (api.Addr{}) {
					t.Errorf("Add of %v, %d: %v, %t", a, n, got, is)
				}
				continue
			}
			if !is || got.Six != a.Six || number(got).Cmp(want) != 0 {
				t.Errorf("Add of %v, %d: %v, %t", a, n, got, is)
			}
		}
	}
}

// wire is the name of labels.
func wire(labels ...string) api.Name {
	n, e := name.Make(labels)
	if e != api.OK {
		panic(e)
	}
	return n
}

// digitRow is the text's octets as labels, the last one first, and an end behind.
func digitRow(digits string, end ...string) []string {
	row := strings.Split(digits, "")
	slices.Reverse(row)
	return append(row, end...)
}

const someDigits = "20010db8a1b2c3d4e5f60718293a4b5c"

var someAddr = newer(0x20010db8a1b2c3d4, 0xe5f60718293a4b5c)

// P4.3: Reverse.
func TestReverses(t *testing.T) {
	for _, c := range []struct {
		a    api.Addr
		want []string
	}{
		{addr.Four(1, 2, 3, 4), []string{"4", "3", "2", "1", "in-addr", "arpa"}},
		{elder(0), []string{"0", "0", "0", "0", "in-addr", "arpa"}},
		{addr.Four(255, 10, 99, 100), []string{"100", "99", "10", "255", "in-addr", "arpa"}},
		{newer(0, 0), digitRow(strings.Repeat("0", 32), "ip6", "arpa")},
		{newer(math.MaxUint64, math.MaxUint64), digitRow(strings.Repeat("f", 32), "ip6", "arpa")},
		{newer(0, 1), digitRow(strings.Repeat("0", 31)+"1", "ip6", "arpa")},
		{newer(1<<63, 0), digitRow("8"+strings.Repeat("0", 31), "ip6", "arpa")},
		{newer(0, 0x01020304), digitRow(strings.Repeat("0", 24)+"01020304", "ip6", "arpa")},
		{someAddr, digitRow(someDigits, "ip6", "arpa")},
		{newer(0x0123456789abcdef, 0xfedcba9876543210), digitRow("0123456789abcdeffedcba9876543210", "ip6", "arpa")},
	} {
		if n, e := addr.Reverse(c.a); e != api.OK || n != wire(c.want...) {
			t.Errorf("Reverse of %v: %q, %d", c.a, n, e)
		}
		if a, is := addr.Back(wire(c.want...)); !is || a != c.a {
			t.Errorf("Back of %q: %v, %t", c.want, a, is)
		}
	}
}

// P4.3: Back of names that aren't Reverse's to the letter, but folded.
func TestBackFolds(t *testing.T) {
	great := strings.ToUpper(someDigits)
	for _, c := range []struct {
		labels []string
		want   api.Addr
	}{
		{[]string{"4", "3", "2", "1", "IN-ADDR", "ARPA"}, addr.Four(1, 2, 3, 4)},
		{[]string{"4", "3", "2", "1", "In-adDr", "aRpa"}, addr.Four(1, 2, 3, 4)},
		{digitRow(great, "ip6", "arpa"), someAddr},
		{digitRow(great, "IP6", "ARPA"), someAddr},
		{digitRow(someDigits, "iP6", "Arpa"), someAddr},
		{digitRow(great[:16]+someDigits[16:], "Ip6", "arpA"), someAddr},
	} {
		if a, is := addr.Back(wire(c.labels...)); !is || a != c.want {
			t.Errorf("Back of %q: %v, %t", c.labels, a, is)
		}
	}
}

func checkNoBack(t *testing.T, n api.Name) {
	t.Helper()
	if a, is := addr.Back(n); is || a != (api.Addr{}) {
		t.Errorf("Back of %q: %v, %t", n, a, is)
	}
}

func TestBackOfNoReverse(t *testing.T) {
	for _, row := range [][]string{
		nil, {"a"}, {"arpa"}, {"in-addr"}, {"ip6"}, {"in-addr", "arpa"}, {"ip6", "arpa"}, {"arpa", "in-addr"}, {"1", "in-addr", "arpa"}, {"1", "ip6", "arpa"}, {"1", "2", "3", "4"},
		{"4", "3", "2", "1"}, {"4", "3", "2", "1", "arpa"}, {"4", "3", "2", "1", "in-addr"}, {"4", "3", "2", "1", "arpa", "in-addr"}, {"3", "2", "1", "in-addr", "arpa"}, {"5", "4", "3", "2", "1", "in-addr", "arpa"}, {"a", "4", "3", "2", "1", "in-addr", "arpa"},
		{"4", "3", "2", "1", "in-addr", "arpa", "a"}, {"4", "3", "2", "1", "in-addr", "arpa", "arpa"}, {"4", "3", "2", "1", "in-addr", "in-addr", "arpa"}, {"in-addr", "arpa", "4", "3", "2", "1"},
		{"4", "3", "2", "1", "ip6", "arpa"}, {"4", "3", "2", "1", "inaddr", "arpa"}, {"4", "3", "2", "1", "in-addr", "arp"}, {"4", "3", "2", "1", "in-addr", "arpa."}, {"4", "3", "2", "1", "in-addr.arpa"}, {"4.3.2.1", "in-addr", "arpa"}, {"4", "3", "2.1", "in-addr", "arpa"},
		{"4", "3", "2", "2.1", "in-addr", "arpa"}, {"4", "3", "2", "::1", "in-addr", "arpa"}, {"4", "3", "2", "1", "x-addr", "arpa"}, {"4", "3", "2", "1", "in-addr", "com"}, {"04", "03", "02", "01", "in-addr", "arpa"},
		digitRow(someDigits), digitRow(someDigits, "arpa"), digitRow(someDigits, "ip6"), digitRow(someDigits, "arpa", "ip6"), digitRow(someDigits, "in-addr", "arpa"), digitRow(someDigits, "ip6", "int"), digitRow(someDigits, "ip", "arpa"), digitRow(someDigits, "ip6", "arpa", "a"), digitRow(someDigits, "ip6", "ip6", "arpa"),
		digitRow(someDigits[1:], "ip6", "arpa"), digitRow(someDigits+"0", "ip6", "arpa"), digitRow("0"+someDigits, "ip6", "arpa"), digitRow(someDigits[:16], "ip6", "arpa"), digitRow(someDigits+someDigits[:20], "ip6", "arpa"), digitRow(someDigits[:4], "ip6", "arpa"), digitRow(someDigits[:8], "ip6", "arpa"),
		{someDigits, "ip6", "arpa"}, digitRow(strings.Repeat("1", 4), "ip6", "arpa"), {"8", "7", "6", "5", "4", "3", "2", "1", "ip6", "arpa"},
		strings.Split(strings.Repeat("a", 127), ""),
	} {
		checkNoBack(t, wire(row...))
	}
	for _, n := range []api.Name{"\x00", "\x01", "\x024", "4.3.2.1.in-addr.arpa.", wire("4", "3", "2", "1", "in-addr", "arpa") + "\x00", "\x00" + wire("4", "3", "2", "1", "in-addr", "arpa"), wire("4", "3", "2", "1", "in-addr") + "\x05arpa", api.Name(strings.Repeat("\x011", 200)) + wire("in-addr", "arpa")} {
		checkNoBack(t, n)
	}
}

// Each label that is no number, or digit, in each place.
func TestBackOfWrongParts(t *testing.T) {
	for _, s := range wrongNumbers() {
		if s == "" {
			continue
		}
		for at := range 4 {
			row := []string{"4", "3", "2", "1", "in-addr", "arpa"}
			row[at] = s
			checkNoBack(t, wire(row...))
		}
	}
	wrong := []string{"00", "01", "10", "ff", "0a", "g", "G", "-", "-1", "+1", "x", "0x1", "_", " ", "*", "é", "\x00", "1.", ".", "/", ":", "@", "`"}
	for c := range 256 {
		if s := string([]byte{byte(c)}); !strings.Contains("0123456789abcdefABCDEF", s) {
			wrong = append(wrong, s)
		}
	}
	for _, s := range wrong {
		for at := range 32 {
			row := digitRow(someDigits, "ip6", "arpa")
			row[at] = s
			checkNoBack(t, wire(row...))
		}
	}
}

// P4.4: what is written in any of the three ways is read again.
func TestWhatIsWrittenIsRead(t *testing.T) {
	for _, a := range good() {
		s, e := addr.Text(a)
		if e != api.OK {
			t.Fatalf("Text of %v: %d", a, e)
		}
		checkRead(t, s, a)
		checkRead(t, strings.ToUpper(s), a)
		if want, is := fromNetip(s); !is || want != a {
			t.Errorf("Text of %v: %q, which the library reads as %v", a, s, want)
		}
		o, e := addr.Octets(a)
		if got, f := addr.Of(o); e != api.OK || f != api.OK || got != a {
			t.Errorf("Of of Octets of %v: %v, %d, %d", a, got, e, f)
		}
		n, e := addr.Reverse(a)
		if got, is := addr.Back(n); e != api.OK || !is || got != a {
			t.Errorf("Back of Reverse of %v: %v, %d, %t", a, got, e, is)
		}
		if name.Check(n) != api.OK || name.Fold(n) != n {
			t.Errorf("Reverse of %v: %q", a, n)
		}
	}
}

// P4.4: what Back answers is what Reverse has the same name of.
func TestBackIsReversed(t *testing.T) {
	for _, row := range [][]string{{"0", "0", "0", "0"}, {"255", "0", "1", "20"}, digitRow(someDigits), digitRow(strings.ToUpper(someDigits)), {"1"}, {"1", "1", "1", "01"}} {
		for _, end := range [][]string{{"in-addr", "arpa"}, {"ip6", "arpa"}, {"IN-ADDR", "ARPA"}, {"IP6", "ARPA"}, {"arpa"}} {
			n := wire(slices.Concat(row, end)...)
			a, is := addr.Back(n)
			if again, e := addr.Reverse(a); is && (e != api.OK || !name.Same(again, n)) {
				t.Errorf("Reverse of Back of %q: %q, %d", n, again, e)
			}
		}
	}
}

// P4.4: of one kind the order is that of the octets.
func TestOrderIsThatOfOctets(t *testing.T) {
	var row []api.Addr
	for _, v := range edges() {
		if v <= math.MaxUint32 {
			row = append(row, elder(v))
		}
		row = append(row, newer(0, v), newer(v, 0), newer(v, math.MaxUint64), newer(math.MaxUint64, v), newer(v, v))
	}
	for _, a := range row {
		for _, b := range row {
			if a.Six != b.Six {
				continue
			}
			first, _ := addr.Octets(a)
			second, _ := addr.Octets(b)
			if got := addr.Compare(a, b); got != strings.Compare(first, second) {
				t.Errorf("Compare of %v, %v: %d", a, b, got)
			}
		}
	}
}

// The chapter's examples.
func TestExamples(t *testing.T) {
	a, e := addr.Read("1:0:0:2:0:0:0:3")
	if e != api.OK {
		t.Fatal(e)
	}
	checkText(t, a, "1:0:0:2::3")
	n, e := addr.Reverse(addr.Four(1, 2, 3, 4))
	if e != api.OK {
		t.Fatal(e)
	}
	if s, e := name.Text(n); e != api.OK || s != "4.3.2.1.in-addr.arpa." {
		t.Errorf("Reverse of 1.2.3.4: %q, %d", s, e)
	}
}
