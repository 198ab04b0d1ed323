package ranges_test

import (
	"math"
	"math/big"
	"net/netip"
	"regexp"
	"slices"
	"strconv"
	"strings"
	"testing"

	"nameplate/addr"
	"nameplate/api"
	"nameplate/ranges"
)

func elder(lo uint64) api.Addr { return api.Addr{Lo: lo} }

func newer(hi, lo uint64) api.Addr { return api.Addr{Six: true, Hi: hi, Lo: lo} }

func of(base api.Addr, bits int) api.Range { return api.Range{Base: base, Bits: bits} }

// at is the address whose text s is.
func at(s string) api.Addr {
	a, e := addr.Read(s)
	if e != api.OK {
		panic(s)
	}
	return a
}

// in is the range whose text s is, read by the tests' own means.
func in(s string) api.Range {
	base, bits, _ := strings.Cut(s, "/")
	n, err := strconv.Atoi(bits)
	if err != nil {
		panic(s)
	}
	return of(at(base), n)
}

func width(six bool) int {
	if six {
		return 128
	}
	return 32
}

// number is a's number, which tests reckon with.
func number(a api.Addr) *big.Int {
	n := new(big.Int).SetUint64(a.Hi)
	return n.Add(n.Lsh(n, 64), new(big.Int).SetUint64(a.Lo))
}

// numbered is the address of a number.
func numbered(six bool, n *big.Int) api.Addr {
	low := new(big.Int).And(n, new(big.Int).SetUint64(math.MaxUint64))
	return api.Addr{Six: six, Hi: new(big.Int).Rsh(n, 64).Uint64(), Lo: low.Uint64()}
}

// ends are the numbers of the first and the last address of a range that may be.
func ends(r api.Range) (first, last *big.Int) {
	first = number(r.Base)
	last = new(big.Int).Lsh(big.NewInt(1), uint(width(r.Base.Six)-r.Bits))
	return first, last.Add(last, first).Sub(last, big.NewInt(1))
}

// has is the tests' own Has, of a range and an address that may be.
func has(r api.Range, a api.Addr) bool {
	first, last := ends(r)
	n := number(a)
	return a.Six == r.Base.Six && n.Cmp(first) >= 0 && n.Cmp(last) <= 0
}

// headed is the range of so many bits that has a.
func headed(a api.Addr, bits int) api.Range {
	n := number(a)
	behind := uint(width(a.Six) - bits)
	return of(numbered(a.Six, n.Lsh(n.Rsh(n, behind), behind)), bits)
}

// some is a row of addresses of both kinds.
func some() []api.Addr {
	row := []api.Addr{
		elder(0), elder(1), elder(math.MaxUint32), elder(math.MaxUint32 - 1), elder(1 << 31), elder(0x0a000001), elder(0xc0a8ffff), elder(0xaaaaaaaa), elder(0x55555555), elder(0xffff), elder(0xffff0000),
		newer(0, 0), newer(0, 1), newer(0, math.MaxUint32), newer(0, 0x0a000001), newer(0, 1<<63), newer(1, 0), newer(1<<63, 0), newer(0, math.MaxUint64), newer(math.MaxUint64, 0), newer(math.MaxUint64, math.MaxUint64),
		newer(0x20010db8a1b2c3d4, 0xe5f60718293a4b5c), newer(0xaaaaaaaaaaaaaaaa, 0xaaaaaaaaaaaaaaaa), newer(0x5555555555555555, 0x5555555555555555),
	}
	return row
}

// good is a row of ranges that may be: of each address with each number of bits.
func good() []api.Range {
	var row []api.Range
	for _, a := range some() {
		for bits := range width(a.Six) + 1 {
			row = append(row, headed(a, bits))
		}
	}
	return row
}

// short is good's with the numbers of bits about which something changes.
func short() []api.Range {
	edges := []int{0, 1, 8, 15, 16, 17, 24, 30, 31, 32, 33, 63, 64, 65, 111, 112, 113, 127, 128}
	return slices.DeleteFunc(good(), func(r api.Range) bool { return !slices.Contains(edges, r.Bits) })
}

// bad is a row of ranges that may not be.
func bad() []api.Range {
	var row []api.Range
	for _, a := range some() {
		w := width(a.Six)
		for _, bits := range []int{-1, -2, -32, -64, -128, -1 << 31, math.MinInt, w + 1, w + 2, 129, 160, 192, 255, 256, 1 << 16, 1 << 32, 1<<32 + 1, math.MaxInt} {
			row = append(row, of(a, bits))
			if a.Six {
				row = append(row, of(newer(0, 0), bits))
			} else {
				row = append(row, of(elder(0), bits))
			}
		}
	}
	for _, bits := range []int{33, 64, 65, 127, 128} {
		row = append(row, of(elder(0), bits), of(elder(0x0a000000), bits))
	}
	for _, a := range []api.Addr{{Hi: 1}, {Lo: 1 << 32}, {Hi: 1 << 63}, {Lo: 1 << 63}, {Hi: math.MaxUint64, Lo: math.MaxUint64}, {Hi: 1, Lo: 0x0a000000}, {Lo: 1<<32 | 0x0a000000}} {
		for _, bits := range []int{-1, 0, 1, 8, 31, 32, 33, 64, 128, 129} {
			row = append(row, of(a, bits))
		}
	}
	for _, r := range short() {
		for behind := range width(r.Base.Six) - r.Bits {
			bit := new(big.Int).Lsh(big.NewInt(1), uint(behind))
			row = append(row, of(numbered(r.Base.Six, bit.Or(bit, number(r.Base))), r.Bits))
		}
	}
	return row
}

// P5.1: Check.
func TestCheck(t *testing.T) {
	for _, r := range good() {
		if e := ranges.Check(r); e != api.OK {
			t.Errorf("Check of %v: %d", r, e)
		}
	}
	for _, r := range bad() {
		if e := ranges.Check(r); e != api.ErrArg {
			t.Errorf("Check of %v: %d", r, e)
		}
	}
	for r, want := range map[api.Range]api.Errno{
		{}:                             api.OK,
		of(elder(0), 32):               api.OK,
		of(elder(0), 33):               api.ErrArg,
		of(elder(0), -1):               api.ErrArg,
		of(elder(1), 31):               api.ErrArg,
		of(elder(1), 32):               api.OK,
		of(elder(2), 31):               api.OK,
		of(elder(1<<31), 0):            api.ErrArg,
		of(elder(1<<31), 1):            api.OK,
		of(elder(1<<32), 32):           api.ErrArg,
		of(newer(0, 0), 0):             api.OK,
		of(newer(0, 0), 128):           api.OK,
		of(newer(0, 0), 129):           api.ErrArg,
		of(newer(0, 0), -1):            api.ErrArg,
		of(newer(1<<63, 0), 0):         api.ErrArg,
		of(newer(1<<63, 0), 1):         api.OK,
		of(newer(1, 0), 63):            api.ErrArg,
		of(newer(1, 0), 64):            api.OK,
		of(newer(1, 1), 64):            api.ErrArg,
		of(newer(1, 1<<63), 64):        api.ErrArg,
		of(newer(1, 1<<63), 65):        api.OK,
		of(newer(0, 1), 127):           api.ErrArg,
		of(newer(0, 1), 128):           api.OK,
		of(newer(0, 1), 63):            api.ErrArg,
		of(newer(0, 0x0a000000), 8):    api.ErrArg,
		of(newer(0, 0x0a000000), 104):  api.OK,
		of(api.Addr{Hi: 1}, 32):        api.ErrArg,
		of(api.Addr{Hi: 1 << 63}, 0):   api.ErrArg,
		of(api.Addr{Lo: 1 << 40}, 128): api.ErrArg,
	} {
		if e := ranges.Check(r); e != want {
			t.Errorf("Check of %v: %d, not %d", r, e, want)
		}
	}
}

// P5.1: Check, Text and Read against the library's ranges.
func TestAsTheLibraryHasThem(t *testing.T) {
	for _, r := range good() {
		s, e := ranges.Text(r)
		if e != api.OK {
			t.Fatalf("Text of %v: %d", r, e)
		}
		p, err := netip.ParsePrefix(s)
		if err != nil || p != p.Masked() || p.Bits() != r.Bits || p.Addr().Is4() == r.Base.Six {
			t.Errorf("Text of %v: %q, which the library reads as %v, %v", r, s, p, err)
		}
		if octets, _ := addr.Octets(r.Base); string(p.Addr().AsSlice()) != octets {
			t.Errorf("Text of %v: %q, which the library reads as %v", r, s, p)
		}
		checkRead(t, s, r)
	}
}

func checkRead(t *testing.T, s string, want api.Range) {
	t.Helper()
	if r, e := ranges.Read(s); e != api.OK || r != want {
		t.Errorf("Read of %q: %v, %d, not %v", s, r, e, want)
	}
}

func checkReadError(t *testing.T, s string, want api.Errno) {
	t.Helper()
	if r, e := ranges.Read(s); e != want || r != (api.Range{}) {
		t.Errorf("Read of %.80q: %v, %d, not %d", s, r, e, want)
	}
}

// P5.1: Read.
func TestReads(t *testing.T) {
	for s, want := range map[string]api.Range{
		"10.0.0.0/30":          of(elder(0x0a000000), 30),
		"0.0.0.0/0":            of(elder(0), 0),
		"0.0.0.0/1":            of(elder(0), 1),
		"128.0.0.0/1":          of(elder(1<<31), 1),
		"255.255.255.254/31":   of(elder(math.MaxUint32-1), 31),
		"255.255.255.255/32":   of(elder(math.MaxUint32), 32),
		"0.0.0.0/32":           of(elder(0), 32),
		"10.0.0.0/8":           of(elder(0x0a000000), 8),
		"::/0":                 of(newer(0, 0), 0),
		"8000::/1":             of(newer(1<<63, 0), 1),
		"2001:db8::/32":        of(newer(0x20010db8<<32, 0), 32),
		"2001:DB8::/32":        of(newer(0x20010db8<<32, 0), 32),
		"2001:0db8:0::0:0/32":  of(newer(0x20010db8<<32, 0), 32),
		"0:0:0:2::/63":         of(newer(2, 0), 63),
		"0:0:0:1::/64":         of(newer(1, 0), 64),
		"0:0:0:1:8000::/65":    of(newer(1, 1<<63), 65),
		"::1:0/112":            of(newer(0, 1<<16), 112),
		"::fffe/127":           of(newer(0, 0xfffe), 127),
		"::1/128":              of(newer(0, 1), 128),
		"::/128":               of(newer(0, 0), 128),
		"::ffff:1.2.3.0/120":   of(newer(0, 0xffff01020300), 120),
		"::ffff:1.2.3.4/128":   of(newer(0, 0xffff01020304), 128),
		"1:2:3:4:5:6:7:8/128":  of(newer(0x0001000200030004, 0x0005000600070008), 128),
		"fd00:0:0:0:0:0:0:0/8": of(newer(0xfd<<56, 0), 8),
	} {
		checkRead(t, s, want)
	}
}

// wrongDigits is a row of texts that are not one to three digits without a needless nought.
func wrongDigits() []string {
	row := []string{
		"", "00", "01", "000", "001", "007", "024", "030", "008", "0000", "0008", "00000000", "1000", "1024", "0128", "9999", "65536", "4294967296", "4294967304", "18446744073709551616", "18446744073709551624", strings.Repeat("9", 100_000), strings.Repeat("0", 100_000) + "8",
		"-1", "+1", "-0", "+0", "-", "+", "+8", "-8", " 8", "8 ", "8\n", "\t8", "1_0", "_8", "8_", "1e1", "0x8", "0b1", "0o7", "a", "1a", "f", "８", "²", "٣", "\x00", "8\x00", "*", "8.", ".8", "8.0", "8,", "1/8", "8/", "/8", "/", "//", "8/8", "255.0.0.0", "::", "8%eth0",
	}
	for c := range 256 {
		if s := string([]byte{byte(c)}); !strings.Contains("0123456789", s) {
			row = append(row, s, "1"+s, s+"1")
		}
	}
	return row
}

// P5.1: Read of what is no range's text.
func TestReadsNoText(t *testing.T) {
	for _, s := range wrongDigits() {
		for _, base := range []string{"0.0.0.0", "10.0.0.0", "10.0.0.1", "::", "::1"} {
			checkReadError(t, base+"/"+s, api.ErrText)
		}
	}
	for _, s := range []string{
		"", "/", "//", "/8", "/0", "//8", "8", "8/", "10.0.0.0", "::", "::1", "10.0.0.0/", "::/", "10.0.0.0//8", "10.0.0.0/8/", "10.0.0.0/8/8", "/10.0.0.0/8", "/10.0.0.0", "8/10.0.0.0", "::/64/64", "::/8/", "/::", "::/::",
		"10.0.0/8", "10/8", "10.0.0.0.0/8", "10.0.0./8", ".0.0.0/8", "010.0.0.0/8", "10.0.0.00/8", "256.0.0.0/8", "10.0.0.0 /8", "10.0.0.0/ 8", " 10.0.0.0/8", "10.0.0.0/8 ", "10.0.0.0\\8", "10.0.0.0|8", "10.0.0.0:8", "10.0.0.0-8", "10.0.0.0,8", "10.0.0.0%8",
		":/0", ":::/0", "1:2/32", "1::2::3/128", "12345::/16", "g::/16", "::%eth0/64", "[::]/0", "fe80::%1/10", "1:2:3:4:5:6:7:8:9/0", "localhost/8", "a/8",
		// No address' text counts ahead of such bits as may not be.
		"10.0.0/33", "1:2/129", "/999", "x/999", "10.0.0.1/0999", "::1/0129",
		strings.Repeat("/", 100_000), strings.Repeat("1.", 100_000) + "/8", strings.Repeat("1:", 100_000) + "/8", "::/" + strings.Repeat("/8", 100_000),
	} {
		checkReadError(t, s, api.ErrText)
	}
}

// P5.1: Read of ranges that may not be.
func TestReadsNoRange(t *testing.T) {
	for _, s := range []string{
		"10.0.0.1/30", "10.0.0.0/33", "10.0.0.0/34", "10.0.0.0/64", "10.0.0.0/128", "10.0.0.0/129", "10.0.0.0/255", "10.0.0.0/256", "10.0.0.0/288", "10.0.0.0/999", "0.0.0.0/33", "0.0.0.1/0", "0.0.0.1/31", "128.0.0.0/0", "255.255.255.255/31", "10.0.0.0/6", "192.168.1.1/24",
		"::/129", "::/130", "::/256", "::/384", "::/999", "::1/0", "::1/127", "::1/64", "::1/63", "8000::/0", "0:0:0:1::/63", "0:0:0:1:8000::/64", "1:2:3:4:5:6:7:8/124", "1:2:3:4:5:6:7:9/127", "2001:db8::1/32", "::ffff:1.2.3.4/120", "::1.2.3.4/32", "::ffff:10.0.0.0/8",
	} {
		checkReadError(t, s, api.ErrArg)
	}
}

// P5.1: each number of bits behind addresses of both kinds.
func TestReadsEachNumber(t *testing.T) {
	for n := range 1200 {
		s := strconv.Itoa(n)
		for base, a := range map[string]api.Addr{"0.0.0.0": elder(0), "::": newer(0, 0), "255.255.255.255": elder(math.MaxUint32), "ffff:ffff:ffff:ffff:ffff:ffff:ffff:ffff": newer(math.MaxUint64, math.MaxUint64)} {
			w := width(a.Six)
			switch {
			case n > 999:
				checkReadError(t, base+"/"+s, api.ErrText)
			case n > w || n < w && a.Lo != 0:
				checkReadError(t, base+"/"+s, api.ErrArg)
			default:
				checkRead(t, base+"/"+s, of(a, n))
			}
			checkReadError(t, base+"/0"+s, api.ErrText)
		}
	}
}

var digits = regexp.MustCompile(`^(0|[1-9][0-9]{0,2})\z`)

// read is the tests' own Read, which takes the base from addr.Read.
func read(s string) (api.Range, api.Errno) {
	slash := strings.LastIndex(s, "/")
	if slash < 0 || !digits.MatchString(s[slash+1:]) {
		return api.Range{}, api.ErrText
	}
	a, e := addr.Read(s[:slash])
	if e != api.OK {
		return api.Range{}, api.ErrText
	}
	bits, _ := strconv.Atoi(s[slash+1:])
	if bits > width(a.Six) || headed(a, bits).Base != a {
		return api.Range{}, api.ErrArg
	}
	return of(a, bits), api.OK
}

// P5.1: each slip of one octet of a text.
func TestReadsSlips(t *testing.T) {
	check := func(s string) {
		want, e := read(s)
		if r, f := ranges.Read(s); r != want || f != e {
			t.Errorf("Read of %q: %v, %d, not %v, %d", s, r, f, want, e)
		}
	}
	for _, s := range []string{"10.0.0.0/30", "0.0.0.0/0", "1.2.3.4/32", "::/0", "2001:db8::/32", "::1/128", "::ffff:1.2.3.0/120", "ffff::/100"} {
		for i := range len(s) + 1 {
			for c := range 256 {
				octet := string([]byte{byte(c)})
				check(s[:i] + octet + s[i:])
				if i < len(s) {
					check(s[:i] + octet + s[i+1:])
				}
			}
			if i < len(s) {
				check(s[:i] + s[i+1:])
			}
			check(s[:i])
			check(s[i:])
		}
	}
}

// P5.1: each row of a few pieces.
func TestReadsRowsOfPieces(t *testing.T) {
	pieces := []string{"/", "0", "8", "10.0.0.0", "::", "1", "128", "-", " "}
	rows := []string{""}
	for range 5 {
		var longer []string
		for _, s := range rows {
			want, e := read(s)
			if r, f := ranges.Read(s); r != want || f != e {
				t.Errorf("Read of %q: %v, %d, not %v, %d", s, r, f, want, e)
			}
			for _, p := range pieces {
				longer = append(longer, s+p)
			}
		}
		rows = longer
	}
}

// P5.1: Text.
func TestText(t *testing.T) {
	for r, want := range map[api.Range]string{
		{}:                                     "0.0.0.0/0",
		of(elder(0x0a000000), 30):              "10.0.0.0/30",
		of(elder(0x0a000000), 8):               "10.0.0.0/8",
		of(elder(math.MaxUint32), 32):          "255.255.255.255/32",
		of(elder(1<<31), 1):                    "128.0.0.0/1",
		of(newer(0, 0), 0):                     "::/0",
		of(newer(0, 0), 128):                   "::/128",
		of(newer(0x20010db8<<32, 0), 32):       "2001:db8::/32",
		of(newer(1, 0), 64):                    "0:0:0:1::/64",
		of(newer(0, 1), 128):                   "::1/128",
		of(newer(0xabcdef0123456789, 0), 64):   "abcd:ef01:2345:6789::/64",
		of(newer(0, 0xffff01020304), 128):      "::ffff:102:304/128",
		of(newer(1<<48, 1<<63), 100):           "1::8000:0:0:0/100",
		of(newer(0xff<<56, 0), 8):              "ff00::/8",
		of(newer(1<<48|2<<32, 3<<32|4), 127):   "1:2::3:0:4/127",
		of(newer(0, 0x0a000000), 104):          "::a00:0/104",
		of(newer(1<<63, 0), 1):                 "8000::/1",
		of(newer(math.MaxUint64, 1<<63), 65):   "ffff:ffff:ffff:ffff:8000::/65",
		of(newer(math.MaxUint64-1, 0), 63):     "ffff:ffff:ffff:fffe::/63",
		of(newer(0, math.MaxUint64-1), 127):    "::ffff:ffff:ffff:fffe/127",
		of(elder(math.MaxUint32&^0xffffff), 8): "255.0.0.0/8",
	} {
		if s, e := ranges.Text(r); e != api.OK || s != want {
			t.Errorf("Text of %v: %q, %d, not %q", r, s, e, want)
		}
	}
	for _, r := range bad() {
		if s, e := ranges.Text(r); e != api.ErrArg || s != "" {
			t.Errorf("Text of %v: %q, %d", r, s, e)
		}
	}
}

// near is a row of addresses about a range's ends, and some others of both kinds.
func near(r api.Range) []api.Addr {
	first, last := ends(r)
	most := new(big.Int).Lsh(big.NewInt(1), uint(width(r.Base.Six)))
	var row []api.Addr
	for _, end := range []*big.Int{first, last} {
		for _, d := range []int64{-1 << 32, -1 << 16, -2, -1, 0, 1, 2, 1<<16 - 1, 1 << 16, 1<<16 + 1, 1 << 32} {
			n := new(big.Int).Add(end, big.NewInt(d))
			if n.Sign() >= 0 && n.Cmp(most) < 0 {
				row = append(row, numbered(r.Base.Six, n))
			}
		}
	}
	for bit := range width(r.Base.Six) {
		n := new(big.Int).Lsh(big.NewInt(1), uint(bit))
		row = append(row, numbered(r.Base.Six, n.Xor(n, first)))
	}
	return append(row, some()...)
}

// P5.2: Has, of addresses in a range, one ahead of it, one behind it, and each that has one other bit.
func TestHas(t *testing.T) {
	for _, r := range short() {
		for _, a := range near(r) {
			if got, want := ranges.Has(r, a), has(r, a); got != want {
				t.Errorf("Has of %v, %v: %t", r, a, got)
			}
		}
	}
	for _, r := range good() {
		for _, a := range some() {
			if got, want := ranges.Has(r, a), has(r, a); got != want {
				t.Errorf("Has of %v, %v: %t", r, a, got)
			}
		}
	}
	for _, c := range []struct {
		r, a string
		want bool
	}{
		{"10.0.0.0/30", "10.0.0.0", true}, {"10.0.0.0/30", "10.0.0.3", true}, {"10.0.0.0/30", "10.0.0.4", false}, {"10.0.0.0/30", "9.255.255.255", false},
		{"0.0.0.0/0", "0.0.0.0", true}, {"0.0.0.0/0", "255.255.255.255", true}, {"0.0.0.0/0", "::", false}, {"0.0.0.0/0", "::ffff:1.2.3.4", false}, {"::/0", "0.0.0.0", false}, {"::/0", "1.2.3.4", false}, {"::/96", "1.2.3.4", false}, {"::/96", "::1.2.3.4", true},
		{"1.2.3.4/32", "1.2.3.4", true}, {"1.2.3.4/32", "1.2.3.5", false}, {"1.2.3.4/32", "1.2.3.3", false}, {"::1/128", "::1", true}, {"::1/128", "::", false}, {"::1/128", "::2", false},
		{"::/64", "::ffff:ffff:ffff:ffff", true}, {"::/64", "0:0:0:1::", false}, {"::/63", "0:0:0:1::", true}, {"::/63", "0:0:0:2::", false}, {"::/65", "::7fff:ffff:ffff:ffff", true}, {"::/65", "::8000:0:0:0", false},
		{"10.0.0.0/8", "10.255.255.255", true}, {"10.0.0.0/8", "11.0.0.0", false}, {"255.255.255.255/32", "255.255.255.255", true}, {"255.255.255.255/32", "0.0.0.0", false},
	} {
		if got := ranges.Has(in(c.r), at(c.a)); got != c.want {
			t.Errorf("Has of %s, %s: %t", c.r, c.a, got)
		}
	}
}

// wrongAddrs is a row of addresses that may not be, though some have a range's first bits.
func wrongAddrs() []api.Addr {
	return []api.Addr{{Hi: 1}, {Lo: 1 << 32}, {Hi: 1 << 63, Lo: 0x0a000001}, {Hi: 1, Lo: 0x0a000001}, {Lo: 1<<32 | 0x0a000001}, {Lo: 1<<63 | 0x0a000001}, {Hi: math.MaxUint64, Lo: math.MaxUint64}, {Hi: math.MaxUint64}, {Lo: math.MaxUint64}}
}

// P5.2: of an address that may not be no range has any bits.
func TestHasNoWrongAddress(t *testing.T) {
	for _, r := range short() {
		for _, a := range wrongAddrs() {
			if ranges.Has(r, a) {
				t.Errorf("Has of %v, %v", r, a)
			}
			if i, is := ranges.Index(r, a); is || i != 0 {
				t.Errorf("Index of %v, %v: %d, %t", r, a, i, is)
			}
		}
	}
}

// P5.2: of a range that may not be there is nothing.
func TestNothingOfWrongRanges(t *testing.T) {
	fine := []api.Range{{}, of(newer(0, 0), 0), in("10.0.0.0/8"), in("10.0.0.0/30"), in("::/64"), in("::1/128")}
	for _, r := range bad() {
		if n := ranges.Size(r); n != 0 {
			t.Errorf("Size of %v: %d", r, n)
		}
		for _, i := range []int{-1, 0, 1, 1 << 16, math.MinInt, math.MaxInt} {
			if a, is := ranges.At(r, i); is || a != (api.Addr{}) {
				t.Errorf("At of %v, %d: %v, %t", r, i, a, is)
			}
		}
		for _, a := range append([]api.Addr{r.Base, {}, newer(0, 0), elder(0x0a000001)}, wrongAddrs()...) {
			if ranges.Has(r, a) {
				t.Errorf("Has of %v, %v", r, a)
			}
			if i, is := ranges.Index(r, a); is || i != 0 {
				t.Errorf("Index of %v, %v: %d, %t", r, a, i, is)
			}
		}
		for _, b := range append(fine, r) {
			if ranges.Meet(r, b) || ranges.Meet(b, r) {
				t.Errorf("Meet of %v, %v", r, b)
			}
		}
		if n := ranges.Free(r, nil) + ranges.Free(r, fine) + ranges.Free(r, []api.Range{r}); n != 0 {
			t.Errorf("Free of %v: %d", r, n)
		}
	}
}

// size is the tests' own Size.
func size(r api.Range) int { return 1 << min(16, width(r.Base.Six)-r.Bits) }

// P5.2: Size.
func TestSize(t *testing.T) {
	for _, r := range good() {
		if n := ranges.Size(r); n != size(r) {
			t.Errorf("Size of %v: %d", r, n)
		}
	}
	for s, want := range map[string]int{
		"0.0.0.0/0": 65536, "0.0.0.0/1": 65536, "10.0.0.0/8": 65536, "10.0.0.0/15": 65536, "10.0.0.0/16": 65536, "10.0.0.0/17": 32768, "10.0.0.0/24": 256, "10.0.0.0/30": 4, "10.0.0.0/31": 2, "10.0.0.0/32": 1, "255.255.255.255/32": 1,
		"::/0": 65536, "::/1": 65536, "::/63": 65536, "::/64": 65536, "::/65": 65536, "::/111": 65536, "::/112": 65536, "::/113": 32768, "::/127": 2, "::/128": 1, "ffff:ffff:ffff:ffff:ffff:ffff:ffff:ffff/128": 1,
	} {
		if n := ranges.Size(in(s)); n != want {
			t.Errorf("Size of %s: %d", s, n)
		}
	}
}

// P5.2: At below 0, at 0, at the last place and behind it.
func TestAt(t *testing.T) {
	for _, r := range good() {
		n := size(r)
		for _, i := range []int{0, 1, n / 2, n - 2, n - 1, n, n + 1, 2 * n, -1, -2, -n, 1<<16 - 1, 1 << 16, 1<<16 + 1, 1 << 31, 1 << 32, -1 << 32, 1<<32 - 1, math.MaxInt, math.MinInt, math.MinInt + 1} {
			want, some := api.Addr{}, 0 <= i && i < n
			if some {
				first := number(r.Base)
				want = numbered(r.Base.Six, first.Add(first, big.NewInt(int64(i))))
			}
			if a, is := ranges.At(r, i); is != some || a != want {
				t.Errorf("At of %v, %d: %v, %t, not %v", r, i, a, is, want)
			}
		}
	}
	for _, c := range []struct {
		r    string
		i    int
		want string
	}{
		{"10.0.0.0/30", 0, "10.0.0.0"}, {"10.0.0.0/30", 3, "10.0.0.3"}, {"10.0.0.0/8", 65535, "10.0.255.255"}, {"10.0.0.0/16", 256, "10.0.1.0"}, {"0.0.0.0/0", 65535, "0.0.255.255"}, {"255.255.0.0/16", 65535, "255.255.255.255"}, {"255.255.255.255/32", 0, "255.255.255.255"},
		{"::/0", 65535, "::ffff"}, {"2001:db8::/32", 1, "2001:db8::1"}, {"::1:0/112", 65535, "::1:ffff"}, {"::1/128", 0, "::1"}, {"ffff:ffff:ffff:ffff:ffff:ffff:ffff:fffe/127", 1, "ffff:ffff:ffff:ffff:ffff:ffff:ffff:ffff"},
	} {
		if a, is := ranges.At(in(c.r), c.i); !is || a != at(c.want) {
			t.Errorf("At of %s, %d: %v, %t", c.r, c.i, a, is)
		}
	}
}

// P5.2: Index, of addresses that are places, that are in a range alone, and that are in none.
func TestIndex(t *testing.T) {
	for _, r := range short() {
		for _, a := range near(r) {
			d := number(a)
			d.Sub(d, number(r.Base))
			some, want := has(r, a) && d.Cmp(big.NewInt(int64(size(r)))) < 0, 0
			if some {
				want = int(d.Int64())
			}
			if i, is := ranges.Index(r, a); is != some || i != want {
				t.Errorf("Index of %v, %v: %d, %t, not %d", r, a, i, is, want)
			}
		}
	}
	for _, c := range []struct {
		r, a string
		want int // -1: none
	}{
		{"10.0.0.0/30", "10.0.0.0", 0}, {"10.0.0.0/30", "10.0.0.3", 3}, {"10.0.0.0/30", "10.0.0.4", -1}, {"10.0.0.4/30", "10.0.0.3", -1}, {"10.0.0.0/8", "10.0.255.255", 65535}, {"10.0.0.0/8", "10.1.0.0", -1}, {"10.0.0.0/8", "10.255.255.255", -1},
		{"0.0.0.0/0", "0.0.0.7", 7}, {"0.0.0.0/0", "0.1.0.0", -1}, {"0.0.0.0/0", "::7", -1}, {"::/0", "0.0.0.7", -1}, {"::/0", "::7", 7}, {"::/0", "::1:0", -1}, {"::/0", "0:0:0:1::", -1}, {"::/0", "0:0:0:1::7", -1}, {"::/64", "::ffff", 65535}, {"::/64", "::8000:0:0:0", -1},
		{"8000::/1", "8000::7", 7}, {"8000::/1", "8000:0:0:1::7", -1}, {"8000::/1", "c000::7", -1}, {"0:0:0:1::/64", "0:0:0:1::9", 9}, {"0:0:0:1:8000::/65", "0:0:0:1:8000::9", 9}, {"::1/128", "::1", 0}, {"::1/128", "::2", -1}, {"1.2.3.4/32", "1.2.3.4", 0}, {"1.2.3.4/32", "::102:304", -1},
	} {
		i, is := ranges.Index(in(c.r), at(c.a))
		if is != (c.want >= 0) || i != max(c.want, 0) {
			t.Errorf("Index of %s, %s: %d, %t", c.r, c.a, i, is)
		}
	}
}

// meet is the tests' own Meet, of ranges that may be.
func meet(a, b api.Range) bool {
	first, last := ends(a)
	begin, end := ends(b)
	return a.Base.Six == b.Base.Six && first.Cmp(end) <= 0 && begin.Cmp(last) <= 0
}

// P5.2: Meet, and P5.3: it is so just if one has the other's Base.
func TestMeet(t *testing.T) {
	for _, a := range short() {
		for _, b := range short() {
			got := ranges.Meet(a, b)
			if got != meet(a, b) {
				t.Errorf("Meet of %v, %v: %t", a, b, got)
			}
			if got != (ranges.Has(a, b.Base) || ranges.Has(b, a.Base)) {
				t.Errorf("Meet of %v, %v: %t, though their Bases tell otherwise", a, b, got)
			}
		}
	}
	for _, c := range []struct {
		a, b string
		want bool
	}{
		{"10.0.0.0/8", "10.0.0.0/8", true}, {"10.0.0.0/8", "10.0.0.0/30", true}, {"10.0.0.0/8", "10.255.255.255/32", true}, {"10.0.0.0/8", "11.0.0.0/8", false}, {"10.0.0.0/8", "9.0.0.0/8", false}, {"10.0.0.0/9", "10.128.0.0/9", false}, {"10.0.0.0/31", "10.0.0.2/31", false}, {"10.0.0.1/32", "10.0.0.2/32", false},
		{"0.0.0.0/0", "255.255.255.255/32", true}, {"0.0.0.0/0", "::/0", false}, {"::/0", "::1/128", true}, {"::/96", "0.0.0.0/0", false}, {"::ffff:0:0/96", "0.0.0.0/0", false}, {"::/64", "0:0:0:1::/64", false}, {"::/63", "0:0:0:1::/64", true}, {"::/65", "::8000:0:0:0/65", false}, {"::/64", "::8000:0:0:0/65", true}, {"10.0.0.0/8", "10.200.0.0/16", true},
	} {
		if ranges.Meet(in(c.a), in(c.b)) != c.want || ranges.Meet(in(c.b), in(c.a)) != c.want {
			t.Errorf("Meet of %s, %s: not %t", c.a, c.b, c.want)
		}
	}
}

// free is the tests' own Free, of ranges that may be, by going through all places.
func free(r api.Range, reserved []api.Range) int {
	n := 0
	for i := range size(r) {
		place := number(r.Base)
		a := numbered(r.Base.Six, place.Add(place, big.NewInt(int64(i))))
		if !slices.ContainsFunc(reserved, func(x api.Range) bool { return has(x, a) }) {
			n++
		}
	}
	return n
}

// P5.2: Free, of each three ranges that lie in, about and beside a small one.
func TestFree(t *testing.T) {
	for _, base := range []api.Addr{at("10.0.0.16"), at("255.255.255.248"), at("0.0.0.0"), newer(0, 0), newer(1, 1<<63), newer(math.MaxUint64, math.MaxUint64&^7)} {
		w := width(base.Six)
		r := of(base, w-3)
		var about []api.Range
		for _, wide := range []int{w, w - 1, w - 2, w - 3, w - 4, w / 2, 0} {
			for i := range uint64(8) {
				a := base
				a.Lo += i
				if x := headed(a, wide); !slices.Contains(about, x) {
					about = append(about, x)
				}
			}
		}
		about = append(about, headed(numbered(base.Six, number(api.Addr{Hi: base.Hi, Lo: base.Lo ^ 8})), w-3), of(newer(5, 0), 64), of(elder(5), 32))
		for _, a := range about {
			for _, b := range about {
				for _, c := range about {
					reserved := []api.Range{a, b, c}
					if n, want := ranges.Free(r, reserved), free(r, reserved); n != want {
						t.Errorf("Free of %v, %v: %d, not %d", r, reserved, n, want)
					}
				}
			}
		}
	}
}

func checkFree(t *testing.T, want int, r string, reserved ...string) {
	t.Helper()
	var row []api.Range
	for _, s := range reserved {
		row = append(row, in(s))
	}
	if n := ranges.Free(in(r), row); n != want {
		t.Errorf("Free of %s, %v: %d, not %d", r, reserved, n, want)
	}
	slices.Reverse(row)
	if n := ranges.Free(in(r), row); n != want {
		t.Errorf("Free of %s, %v, the other way round: %d, not %d", r, reserved, n, want)
	}
}

// P5.2: Free, of nothing reserved, of the range itself, of wider ones, of places twice reserved, of more than 2^16 addresses, and of ranges that may not be.
func TestFreeAtEdges(t *testing.T) {
	for _, r := range short() {
		for _, none := range [][]api.Range{nil, {}, {of(r.Base, -1)}, {of(r.Base, 129), of(api.Addr{Hi: 1}, 0)}} {
			if n := ranges.Free(r, none); n != size(r) {
				t.Errorf("Free of %v, %v: %d", r, none, n)
			}
		}
		for bits := range r.Bits + 1 {
			if n := ranges.Free(r, []api.Range{headed(r.Base, bits)}); n != 0 {
				t.Errorf("Free of %v with %d bits reserved: %d", r, bits, n)
			}
		}
	}
	checkFree(t, 3, "10.0.0.0/30", "10.0.0.0/32")
	checkFree(t, 3, "10.0.0.0/30", "10.0.0.3/32", "10.0.0.3/32")
	checkFree(t, 2, "10.0.0.0/30", "10.0.0.0/31", "10.0.0.1/32")
	checkFree(t, 1, "10.0.0.0/30", "10.0.0.0/31", "10.0.0.3/32")
	checkFree(t, 0, "10.0.0.0/30", "10.0.0.0/31", "10.0.0.2/31")
	checkFree(t, 4, "10.0.0.0/30", "10.0.0.4/30", "9.255.255.252/30", "::/0", "10.0.0.4/32", "9.255.255.255/32")
	checkFree(t, 1, "10.0.0.1/32", "10.0.0.0/32", "10.0.0.2/32", "::/0")
	checkFree(t, 0, "10.0.0.1/32", "10.0.0.1/32")
	checkFree(t, 0, "10.5.0.0/16", "10.0.0.0/8")
	checkFree(t, 0, "10.5.0.0/16", "0.0.0.0/0")
	checkFree(t, 65536-256, "10.5.0.0/16", "10.5.255.0/24")
	checkFree(t, 65535, "10.0.0.0/16", "10.0.255.255/32")
	checkFree(t, 65535, "10.0.0.0/15", "10.0.255.255/32", "10.1.0.0/32")
	checkFree(t, 65536, "10.0.0.0/8", "10.1.0.0/16", "10.128.0.0/9")
	checkFree(t, 0, "10.0.0.0/8", "10.0.0.0/16")
	checkFree(t, 0, "10.0.0.0/8", "10.0.0.0/15")
	checkFree(t, 32768, "10.0.0.0/8", "10.0.0.0/17", "10.1.0.0/17")
	checkFree(t, 65534, "0.0.0.0/0", "0.0.0.0/32", "0.0.255.255/32", "255.255.255.255/32", "0.1.0.0/16")
	checkFree(t, 65534, "::/0", "::/128", "::ffff/128", "::1:0/112", "0:0:0:1::/64", "8000::/1", "0.0.0.0/0")
	checkFree(t, 0, "::/0", "::/1")
	checkFree(t, 0, "::/0", "::/112")
	checkFree(t, 256, "2001:db8::/32", "2001:db8::8000/113", "2001:db8::4000/114", "2001:db8::2000/115", "2001:db8::1000/116", "2001:db8::800/117", "2001:db8::400/118", "2001:db8::200/119", "2001:db8::100/120", "2001:db8::100/128")
	for _, r := range bad() {
		if n := ranges.Free(in("10.0.0.0/29"), []api.Range{r}); n != 8 {
			t.Errorf("Free beside %v: %d", r, n)
		}
		if n := ranges.Free(of(newer(0, 0), 125), []api.Range{in("::1/128"), r, in("::7/128")}); n != 6 {
			t.Errorf("Free beside %v: %d", r, n)
		}
	}
}

// P5.2: Free ends soon, however many ranges are reserved.
func TestFreeOfManyReserved(t *testing.T) {
	var reserved []api.Range
	for i := range uint64(200_000) {
		reserved = append(reserved, of(elder(0x0a000000+2*i), 32), of(elder(0x0a000000), 32), of(elder(0x0a00fffe), 31), of(newer(0, i), 128))
	}
	if n := ranges.Free(in("10.0.0.0/8"), reserved); n != 32767 {
		t.Errorf("Free: %d", n)
	}
	if n := ranges.Free(in("::/0"), reserved); n != 0 {
		t.Errorf("Free: %d", n)
	}
}

// Nothing of what Free is handed is changed, its spare room neither, and calls of the same answer the same.
func TestFreeLeavesReserved(t *testing.T) {
	room := []api.Range{in("10.0.0.3/32"), in("10.0.0.0/31"), in("0.0.0.0/0"), in("10.0.0.0/30"), {Bits: -1}}
	before := slices.Clone(room)
	for range 3 {
		if n := ranges.Free(in("10.0.0.0/29"), room[:2]); n != 5 {
			t.Errorf("Free: %d", n)
		}
	}
	if !slices.Equal(room, before) {
		t.Errorf("Free left %v of %v", room, before)
	}
}

// P5.3: Index of At is the place, of each place of each size.
func TestIndexOfAt(t *testing.T) {
	for _, r := range good() {
		n := ranges.Size(r)
		step := 1
		if n > 512 {
			step = 251
		}
		for i := 0; i < n; i += step {
			checkIndexOfAt(t, r, i)
		}
		checkIndexOfAt(t, r, n-1)
	}
	for _, s := range []string{"10.0.0.0/16", "255.255.0.0/16", "0.0.0.0/0", "::/0", "2001:db8::/32", "ffff:ffff:ffff:ffff:ffff:ffff:ffff:0/112"} {
		for i := range 1 << 16 {
			checkIndexOfAt(t, in(s), i)
		}
	}
}

func checkIndexOfAt(t *testing.T, r api.Range, i int) {
	t.Helper()
	a, is := ranges.At(r, i)
	if j, some := ranges.Index(r, a); !is || !some || i != j || !ranges.Has(r, a) {
		t.Errorf("Index of At of %v, %d: %v, %t, %d, %t", r, i, a, is, j, some)
	}
}

// The chapter's examples.
func TestExamples(t *testing.T) {
	r, e := ranges.Read("10.0.0.0/30")
	if e != api.OK {
		t.Fatal(e)
	}
	if n := ranges.Size(r); n != 4 {
		t.Errorf("Size: %d", n)
	}
	a, is := ranges.At(r, 3)
	if s, e := addr.Text(a); !is || e != api.OK || s != "10.0.0.3" {
		t.Errorf("At: %q, %t", s, is)
	}
	checkReadError(t, "10.0.0.1/30", api.ErrArg)
}
