package hash_test

import (
	"hash/fnv"
	"iter"
	"math"
	"math/big"
	"slices"
	"strconv"
	"strings"
	"testing"

	"nameplate/api"
	"nameplate/hash"
	"nameplate/name"
)

const nothing = 14695981039346656037 // the sum of nothing, by the document's number

// Sums to go on from, and numbers of slots that are some.
var (
	sums  = []uint64{0, 1, 255, 256, 1 << 40, 1 << 63, 1<<63 - 1, nothing, math.MaxUint64 - 255, math.MaxUint64 - 1, math.MaxUint64}
	slots = []int{1, 2, 3, 7, 8, 255, 256, 1<<16 - 1, 1 << 16, 1<<16 + 1, 1<<31 - 1, 1 << 31, 1<<32 - 1, 1 << 32, 1<<32 + 1, 1 << 62, math.MaxInt - 1, math.MaxInt}
	none  = []int{math.MinInt, math.MinInt + 1, -1 << 32, -1 << 31, -256, -2, -1, 0}
)

// drawn is a row of numbers that look as by chance, and are the same each time.
type drawn uint64

func (d *drawn) next() uint64 {
	*d = *d*6364136223846793005 + 1442695040888963407
	return uint64(*d) ^ uint64(*d)>>29
}

// octets is a row of n octets by chance.
func (d *drawn) octets(n int) string {
	row := make([]byte, n)
	for i := range row {
		row[i] = byte(d.next() >> 17)
	}
	return string(row)
}

// wire is the name of labels, put together without a look at whether they may be.
func wire(labels ...string) api.Name {
	var row []byte
	for _, l := range labels {
		row = append(append(row, byte(len(l))), l...)
	}
	return api.Name(row)
}

// more is the sum by the chapter's words, over numbers without bounds: the lowest eight bits alone are turned.
func more(sum uint64, s string) uint64 {
	modulus := new(big.Int).Lsh(big.NewInt(1), 64)
	v := new(big.Int).SetUint64(sum)
	for i := range len(s) {
		for bit := range 8 {
			turned := v.Bit(bit) ^ uint(s[i])>>bit&1
			v.SetBit(v, bit, turned)
		}
		v.Mul(v, big.NewInt(1099511628211)).Mod(v, modulus)
	}
	return v.Uint64()
}

// library is the sum as the library has it.
func library(s string) uint64 {
	h := fnv.New64a()
	h.Write([]byte(s))
	return h.Sum64()
}

// folded is a name's octets with small letters; its length octets are below the letters.
func folded(n api.Name) string {
	row := []byte(n)
	for i, c := range row {
		if c >= 'A' && c <= 'Z' {
			row[i] = c + 'a' - 'A'
		}
	}
	return string(row)
}

// slotOf is Slot by the chapter's words, over numbers without bounds.
func slotOf(n api.Name, slots int) int {
	if slots < 1 {
		return 0
	}
	v := new(big.Int).SetUint64(more(nothing, folded(n)))
	return int(v.Mod(v, big.NewInt(int64(slots))).Int64())
}

// turn is the places that a probe tells, by the chapter's words.
func turn(first, slots int) []int {
	var l []int
	for place := first; place < slots; place++ {
		l = append(l, place)
	}
	for place := 0; place < first; place++ {
		l = append(l, place)
	}
	return l
}

// names is a row of names that may be, of all lengths that matter, and of all octets.
func names() []api.Name {
	full := strings.Repeat("M", 63)
	l := []api.Name{
		"", wire("a"), wire("A"), wire("*"), wire("a", "b"), wire("b", "a"), wire("WWW", "Example", "com"),
		wire("\x00"), wire("\xff"), wire("a.b"), wire("\x01a"), wire(full),
		wire(full, full, full, strings.Repeat("m", 61)), // 254 octets
		wire(slices.Repeat([]string{"Z"}, 127)...),      // 254 octets
	}
	for c := range 256 {
		l = append(l, wire(string([]byte{byte(c)})), wire("x", string([]byte{'Y', byte(c), 'z'})))
	}
	return l
}

// withSlot is a name whose slot is at first.
func withSlot(t *testing.T, first, slots int) api.Name {
	t.Helper()
	for k := range 10_000 {
		n := wire("h" + strconv.Itoa(k))
		if slotOf(n, slots) == first {
			return n
		}
	}
	t.Fatalf("no name begins at %d of %d", first, slots)
	return ""
}

// take is the first most places of a probe, which is left then; where there are fewer, all.
func take(places iter.Seq[int], most int) []int {
	var l []int
	for place := range places {
		l = append(l, place)
		if len(l) == most {
			break
		}
	}
	return l
}

func TestExamples(t *testing.T) {
	if v := hash.Sum(""); v != 14695981039346656037 {
		t.Errorf("Sum of nothing = %d", v)
	}
	if v := hash.Sum("a"); v != 12638187200555641996 {
		t.Errorf("Sum of a = %d", v)
	}
}

// P13.1, Sum: numbers that are known of rows that are known, so that a fault the models share is told.
func TestSumKnown(t *testing.T) {
	for s, want := range map[string]uint64{
		"":         0xcbf29ce484222325,
		"\x00":     0xaf63bd4c8601b7df,
		"a":        0xaf63dc4c8601ec8c,
		"b":        0xaf63df4c8601f1a5,
		"foobar":   0x85944171f73967e8,
		"\x00\x00": 0x08328807b4eb6fed,
	} {
		if got := hash.Sum(s); got != want {
			t.Errorf("Sum of %q = %#x; want %#x", s, got, want)
		}
	}
}

// P13.1, Sum: of one octet, each; of 0 and of 255 octets; of long rows. No octet is read as a letter of more octets.
func TestSum(t *testing.T) {
	check := func(s string) {
		t.Helper()
		if got := hash.Sum(s); got != more(nothing, s) || got != library(s) {
			t.Errorf("Sum of %d octets %.40q = %d; want %d", len(s), s, got, more(nothing, s))
		}
	}
	d := drawn(13)
	for c := range 256 {
		one := string([]byte{byte(c)})
		check(one)
		check(one + one)
		check("a" + one + "b")
		check(strings.Repeat(one, 255))
	}
	for n := range 300 {
		check(d.octets(n))
	}
	for _, n := range []int{255, 256, 4095, 1<<16 - 1, 1 << 16, 100_000} {
		check(d.octets(n))
		check(strings.Repeat("\x00", n))
		check(strings.Repeat("\xff", n))
	}
	check("é€𐍈")
	check("\xc3\xe2\x82\xed\xa0\x80\xff\xfe")
}

// P13.1, Sum: each octet counts, and where it stands.
func TestSumTellsRowsApart(t *testing.T) {
	of := map[uint64]string{}
	put := func(s string) {
		if other, some := of[hash.Sum(s)]; some {
			t.Errorf("%q and %q have one sum", s, other)
		}
		of[hash.Sum(s)] = s
	}
	put("")
	for a := range 256 {
		put(string([]byte{byte(a)}))
		for b := range 256 {
			put(string([]byte{byte(a), byte(b)}))
		}
	}
}

// P13.1, More: from 0, from the greatest sum, and from others, sums go round modulo 2^64; of nothing it is the sum itself.
func TestMore(t *testing.T) {
	d := drawn(1)
	rows := []string{"", "\x00", "\xff", "a", "ab", "\x00\x00", "\xff\xff\xff", "é", d.octets(255), d.octets(5000)}
	for _, sum := range sums {
		if got := hash.More(sum, ""); got != sum {
			t.Errorf("More of %d, nothing = %d", sum, got)
		}
		for _, s := range rows {
			if got, want := hash.More(sum, s), more(sum, s); got != want {
				t.Errorf("More of %d, %.40q = %d; want %d", sum, s, got, want)
			}
		}
		for c := range 256 {
			one := string([]byte{byte(c)})
			if got, want := hash.More(sum, one), more(sum, one); got != want {
				t.Errorf("More of %d, %q = %d; want %d", sum, one, got, want)
			}
		}
	}
	for range 2000 {
		sum, s := d.next(), d.octets(int(d.next()>>13%20))
		if got, want := hash.More(sum, s), more(sum, s); got != want {
			t.Fatalf("More of %d, %q = %d; want %d", sum, s, got, want)
		}
	}
	if got := hash.More(0, "\x00\x00\x00"); got != 0 {
		t.Errorf("More of 0, three octets of 0 = %d", got)
	}
	if got := hash.More('a', "a"); got != 0 {
		t.Errorf("More of a's number, a = %d", got)
	}
	if got := hash.More(math.MaxUint64, "\x00"); got != math.MaxUint64-1099511628210 {
		t.Errorf("More of the greatest sum, an octet of 0 = %d", got)
	}
	if got := hash.More(3560570117845248645, "\x00"); got != math.MaxUint64 {
		t.Errorf("More that goes round to the greatest sum = %d", got)
	}
}

// P13.2: More of a first part's sum is the whole's, wherever it is cut.
func TestMoreOfParts(t *testing.T) {
	d := drawn(2)
	for _, s := range []string{"", "a", "foobar", "é€𐍈", strings.Repeat("\x00", 255), strings.Repeat("\xff", 255), d.octets(300), string(wire("www", "a"))} {
		whole := hash.Sum(s)
		for cut := range len(s) + 1 {
			if got := hash.More(hash.Sum(s[:cut]), s[cut:]); got != whole {
				t.Errorf("More behind the first %d of %.40q = %d; want %d", cut, s, got, whole)
			}
			for _, sum := range sums {
				if got, want := hash.More(hash.More(sum, s[:cut]), s[cut:]), hash.More(sum, s); got != want {
					t.Errorf("More from %d, cut at %d of %.40q = %d; want %d", sum, cut, s, got, want)
				}
			}
		}
		by := uint64(nothing)
		for i := range len(s) {
			by = hash.More(by, s[i:i+1])
		}
		if by != whole {
			t.Errorf("More octet by octet of %.40q = %d; want %d", s, by, whole)
		}
	}
}

// P13.1, Name: of no label, of one, of the longest, of each octet, the sum of what name folds it to.
func TestName(t *testing.T) {
	for _, n := range names() {
		if name.Check(n) != api.OK {
			t.Fatalf("%q may not be", n)
		}
		got := hash.Name(n)
		if want := more(nothing, folded(n)); got != want {
			t.Errorf("Name of %.40q = %d; want %d", n, got, want)
		}
		if want := hash.Sum(string(name.Fold(n))); got != want {
			t.Errorf("Name of %.40q = %d; want Sum of what it is folded to, %d", n, got, want)
		}
	}
	if got := hash.Name(""); got != nothing {
		t.Errorf("Name of the root = %d", got)
	}
	if got := hash.Name("\x01A"); got != 589763776587810007 {
		t.Errorf("Name of A = %d", got)
	}
}

// P13.2, Name: names that are the same folded have one sum; octets beside the letters stay apart.
func TestNameOfCases(t *testing.T) {
	for c := range 256 {
		one := string([]byte{byte(c)})
		for k := range 256 {
			other := string([]byte{byte(k)})
			a, b := wire("x", one), wire("X", other)
			if same := hash.Name(a) == hash.Name(b); same != name.Same(a, b) {
				t.Errorf("Names of %q and %q: one sum is %t", a, b, same)
			}
		}
	}
	for _, n := range names() {
		if name.Fold(n) == n {
			continue
		}
		if hash.Name(n) != hash.Name(name.Fold(n)) {
			t.Errorf("Name of %.40q isn't that of what it is folded to", n)
		}
		for _, s := range slots {
			if hash.Slot(n, s) != hash.Slot(name.Fold(n), s) {
				t.Errorf("Slot of %.40q, %d isn't that of what it is folded to", n, s)
			}
		}
	}
	if hash.Name(wire("a", "b")) == hash.Name(wire("a.b")) || hash.Name(wire("ab")) == hash.Name(wire("a", "b")) {
		t.Error("lengths don't count")
	}
}

// P13.1, Name: what may not be is folded to none (2: Fold), so it is at the sum of nothing, and begins where the root does.
func TestOfNamesThatMayNotBe(t *testing.T) {
	for _, n := range []api.Name{"\x00", "a", "\x02a", "\x01a\x00", "\x40" + api.Name(strings.Repeat("a", 64)), "\xc0\x00", wire(slices.Repeat([]string{"a"}, 128)...)} {
		if name.Check(n) == api.OK {
			t.Fatalf("%q may be", n)
		}
		if got := hash.Name(n); got != nothing {
			t.Errorf("Name of %.40q = %d", n, got)
		}
		if got := hash.Slot(n, 1000); got != hash.Slot("", 1000) {
			t.Errorf("Slot of %.40q = %d", n, got)
		}
		if got := slices.Collect(hash.Probe(n, 5)); !slices.Equal(got, turn(slotOf("", 5), 5)) {
			t.Errorf("Probe of %.40q = %v", n, got)
		}
	}
}

// P13.1, Slot: of slots below 1, of 1, of some, of the greatest int; it is from 0 to below slots.
func TestSlot(t *testing.T) {
	for _, n := range names() {
		for _, s := range none {
			if got := hash.Slot(n, s); got != 0 {
				t.Errorf("Slot of %.40q, %d = %d", n, s, got)
			}
		}
		if got := hash.Slot(n, 1); got != 0 {
			t.Errorf("Slot of %.40q, 1 = %d", n, got)
		}
		for _, s := range slots {
			got := hash.Slot(n, s)
			if got < 0 || got >= s || got != slotOf(n, s) {
				t.Errorf("Slot of %.40q, %d = %d; want %d", n, s, got, slotOf(n, s))
			}
		}
		for s := range 300 {
			if got := hash.Slot(n, s); got != slotOf(n, s) {
				t.Errorf("Slot of %.40q, %d = %d; want %d", n, s, got, slotOf(n, s))
			}
		}
	}
	if got := hash.Slot("", math.MaxInt); got != nothing-math.MaxInt { // the sum is above the greatest int, below twice it
		t.Errorf("Slot of the root, the greatest int = %d", got)
	}
	if got := hash.Slot("", 10); got != 7 {
		t.Errorf("Slot of the root, 10 = %d", got)
	}
}

// P13.1, Probe: of slots below 1 none.
func TestProbeOfNone(t *testing.T) {
	for _, s := range none {
		for _, n := range []api.Name{"", wire("a"), "\x00"} {
			places := hash.Probe(n, s)
			if places == nil {
				t.Fatalf("Probe of %q, %d is no iterator", n, s)
			}
			for place := range places {
				t.Fatalf("Probe of %q, %d tells %d", n, s, place)
			}
		}
	}
}

// P13.1, Probe: of 1 and of some all places, each once, from Slot on, up, round once; the same again.
func TestProbe(t *testing.T) {
	for _, n := range names() {
		for _, s := range []int{1, 2, 3, 4, 5, 16, 31, 256, 300} {
			places := hash.Probe(n, s)
			want := turn(slotOf(n, s), s)
			if got := slices.Collect(places); !slices.Equal(got, want) {
				t.Fatalf("Probe of %.40q, %d = %v; want %v", n, s, got, want)
			}
			if got := slices.Collect(places); !slices.Equal(got, want) {
				t.Fatalf("Probe of %.40q, %d gone through again = %v; want %v", n, s, got, want)
			}
			seen := slices.Sorted(places)
			if len(seen) != s || seen[0] != 0 || seen[s-1] != s-1 || len(slices.Compact(seen)) != s {
				t.Fatalf("Probe of %.40q, %d doesn't tell each place once: %v", n, s, seen)
			}
			if first := take(places, 1); first[0] != hash.Slot(n, s) {
				t.Fatalf("Probe of %.40q, %d begins at %d, not at Slot", n, s, first[0])
			}
		}
	}
	if got := slices.Collect(hash.Probe("", 10)); !slices.Equal(got, []int{7, 8, 9, 0, 1, 2, 3, 4, 5, 6}) {
		t.Errorf("Probe of the root, 10 = %v", got)
	}
}

// P13.1, Probe: from each place on, the first and the last too, where there is no turn, or it comes at once.
func TestProbeFromEachPlace(t *testing.T) {
	for s := 1; s <= 12; s++ {
		for first := range s {
			n := withSlot(t, first, s)
			if got := slices.Collect(hash.Probe(n, s)); !slices.Equal(got, turn(first, s)) {
				t.Errorf("Probe of %q, %d = %v; want %v", n, s, got, turn(first, s))
			}
		}
	}
	s := 1 << 16
	if got := slices.Collect(hash.Probe(wire("a"), s)); !slices.Equal(got, turn(slotOf(wire("a"), s), s)) {
		t.Errorf("Probe of a, %d tells %d places", s, len(got))
	}
}

// P13.1, Probe: left early after none, after one, ahead of the turn, at it, behind it; it then says nothing more, and is whole again.
func TestProbeLeftEarly(t *testing.T) {
	const s = 9
	for first := range s {
		n := withSlot(t, first, s)
		places, want := hash.Probe(n, s), turn(first, s)
		for most := range s + 1 {
			var got []int
			places(func(place int) bool {
				got = append(got, place)
				return len(got) < most
			})
			told := max(most, 1) // one is told, even where it isn't taken
			if !slices.Equal(got, want[:told]) {
				t.Errorf("Probe of %q, %d left after %d tells %v; want %v", n, s, most, got, want[:told])
			}
			if most > 0 && !slices.Equal(take(places, most), want[:most]) {
				t.Errorf("Probe of %q, %d left by a break after %d tells something else", n, s, most)
			}
			if whole := slices.Collect(places); !slices.Equal(whole, want) {
				t.Errorf("Probe of %q, %d behind one left after %d = %v; want %v", n, s, most, whole, want)
			}
		}
	}
}

// P13.1, Probe: of many slots its first places are told at once, since it is left early.
func TestProbeOfManySlots(t *testing.T) {
	for _, n := range []api.Name{"", wire("a"), wire("WWW", "a")} {
		for _, s := range []int{1 << 31, 1 << 32, 1<<32 + 1, math.MaxInt - 1, math.MaxInt} {
			first := slotOf(n, s)
			want := []int{first, first + 1, first + 2, first + 3}
			if got := take(hash.Probe(n, s), 4); !slices.Equal(got, want) {
				t.Errorf("Probe of %q, %d begins %v; want %v", n, s, got, want)
			}
		}
	}
}

// T6: probes stand apart: one within another, and two by turns, tell what each tells alone.
func TestProbesStandApart(t *testing.T) {
	const s = 6
	a, b := wire("a"), wire("b", "c")
	outer, inner := hash.Probe(a, s), hash.Probe(b, s)
	var got []int
	for place := range outer {
		got = append(got, place)
		if l := slices.Collect(inner); !slices.Equal(l, turn(slotOf(b, s), s)) {
			t.Fatalf("the inner probe = %v", l)
		}
		if l := take(outer, 2); !slices.Equal(l, turn(slotOf(a, s), s)[:2]) {
			t.Fatalf("the outer probe within itself = %v", l)
		}
	}
	if !slices.Equal(got, turn(slotOf(a, s), s)) {
		t.Errorf("the outer probe = %v", got)
	}
	next, stop := iter.Pull(outer)
	defer stop()
	other, stopOther := iter.Pull(inner)
	defer stopOther()
	for i := range s {
		x, _ := next()
		y, _ := other()
		if x != turn(slotOf(a, s), s)[i] || y != turn(slotOf(b, s), s)[i] {
			t.Errorf("by turns, the places %d are %d, %d", i, x, y)
		}
	}
	if _, some := next(); some {
		t.Error("a probe goes round twice")
	}
}

// T6: what is answered depends on the arguments alone, whatever was asked between.
func TestTheSameAgain(t *testing.T) {
	d := drawn(6)
	for range 2000 {
		n, s := api.Name(d.octets(int(d.next()>>13%6))), int(d.next())
		sum, slot := hash.Name(n), hash.Slot(n, s)
		hash.Sum(d.octets(8))
		hash.More(d.next(), "x")
		if hash.Name(n) != sum || hash.Slot(n, s) != slot {
			t.Fatalf("Name of %q or Slot of it, %d isn't the same again", n, s)
		}
		if s >= 1 && (slot < 0 || slot >= s) || s < 1 && slot != 0 {
			t.Fatalf("Slot of %q, %d = %d", n, s, slot)
		}
		want := []int{slot}
		if s < 1 {
			want = nil
		}
		if got := take(hash.Probe(n, s), 1); !slices.Equal(got, want) {
			t.Fatalf("Probe of %q, %d begins %v", n, s, got)
		}
	}
}
