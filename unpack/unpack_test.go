package unpack_test

import (
	"fmt"
	"math"
	"slices"
	"strings"
	"testing"

	"nameplate/api"
	"nameplate/pack"
	"nameplate/unpack"
)

const (
	mostName = 254   // octets of a name, without the nought
	reach    = 16384 // 2^14: no pointer leads there
)

// wire is the name of labels, put together without a look at whether they may be.
func wire(labels ...string) string {
	var row []byte
	for _, l := range labels {
		row = append(append(row, byte(len(l))), l...)
	}
	return string(row)
}

// small is labels as short as can be, whose name has n octets, from 2 on.
func small(n int) string {
	row := slices.Repeat([]string{"a"}, n/2)
	if n%2 == 1 {
		row[len(row)-1] += "a"
	}
	return wire(row...)
}

// great is labels as long as can be, whose name has n octets, from 194 to 256.
func great(n int) string {
	full := strings.Repeat("B", 63)
	return wire(full, full, full, strings.Repeat("b", n-193))
}

// pointer is two octets that lead to a place.
func pointer(at int) string { return string([]byte{byte(192 + at/256), byte(at % 256)}) }

// short is a text as far as a row of the tests' words has room for it.
func short(s string) string {
	if len(s) > 80 {
		return fmt.Sprintf("%q .. %q (%d)", s[:40], s[len(s)-40:], len(s))
	}
	return fmt.Sprintf("%q", s)
}

// want is what the four calls should answer of octets and a place.
type want struct {
	name  answer
	plain answer
	skip  answer // without a name
	jumps int
}

type answer struct {
	n   string
	end int
	e   api.Errno
}

func (a answer) String() string { return fmt.Sprintf("%s, %d, error %d", short(a.n), a.end, a.e) }

func wrong(e api.Errno) answer { return answer{e: e} }

// all is what is wanted where none of the calls can do anything.
func all(e api.Errno) want { return want{name: wrong(e), plain: wrong(e), skip: wrong(e)} }

// check holds the four calls against what is wanted.
func check(t *testing.T, s string, at int, w want) {
	t.Helper()
	n, end, e := unpack.Name(s, at)
	if got := (answer{string(n), end, e}); got != w.name {
		t.Errorf("Name of %s at %d: %v, not %v", short(s), at, got, w.name)
	}
	n, end, e = unpack.Plain(s, at)
	if got := (answer{string(n), end, e}); got != w.plain {
		t.Errorf("Plain of %s at %d: %v, not %v", short(s), at, got, w.plain)
	}
	end, e = unpack.Skip(s, at)
	if got := (answer{"", end, e}); got != w.skip {
		t.Errorf("Skip of %s at %d: %v, not %v", short(s), at, got, w.skip)
	}
	if got := unpack.Jumps(s, at); got != w.jumps {
		t.Errorf("Jumps of %s at %d: %d, not %d", short(s), at, got, w.jumps)
	}
}

// whole is what is wanted of a name without pointers that ends at end.
func whole(n string, end int) want {
	return want{name: answer{n, end, api.OK}, plain: answer{n, end, api.OK}, skip: answer{"", end, api.OK}}
}

// pointed is what is wanted of a name with pointers, the first of which ends at end.
func pointed(n string, end, jumps int) want {
	return want{name: answer{n, end, api.OK}, plain: wrong(api.ErrBad), skip: answer{"", end, api.OK}, jumps: jumps}
}

// astray is what is wanted of a name whose pointers can't be followed, the first of which ends at end.
func astray(e api.Errno, end int) want {
	return want{name: wrong(e), plain: wrong(api.ErrBad), skip: answer{"", end, api.OK}}
}

// model is the four calls by the chapter's words alone.
func model(s string, at int) want {
	if at < 0 || at > len(s) {
		return all(api.ErrArg)
	}
	n, end, jumps, e := runs(s, at, "", false)
	w := want{name: answer{n, end, e}, jumps: jumps}
	n, end, _, e = runs(s, at, "", true)
	w.plain = answer{n, end, e}
	end, e = passed(s, at)
	w.skip = answer{"", end, e}
	return w
}

// runs is the run from a place on, behind what the runs before told of the name, and all runs behind it.
func runs(s string, from int, n string, plain bool) (whole string, end, jumps int, e api.Errno) {
	for at := from; ; {
		if at >= len(s) {
			return "", 0, 0, api.ErrMore
		}
		first := int(s[at])
		if first == 0 {
			return n, at + 1, 0, api.OK
		}
		if first >= 64 && first < 192 {
			return "", 0, 0, api.ErrBad
		}
		if first >= 192 {
			if at+1 >= len(s) {
				return "", 0, 0, api.ErrMore
			}
			to := first%64*256 + int(s[at+1])
			if plain || to >= from {
				return "", 0, 0, api.ErrBad
			}
			whole, _, more, e := runs(s, to, n, plain)
			if e != api.OK {
				return "", 0, 0, e
			}
			return whole, at + 2, 1 + more, api.OK
		}
		if at+1+first > len(s) {
			return "", 0, 0, api.ErrMore
		}
		n += s[at : at+1+first]
		at += 1 + first
		if len(n) > mostName {
			return "", 0, 0, api.ErrLong
		}
	}
}

// passed is Skip.
func passed(s string, at int) (int, api.Errno) {
	for at < len(s) {
		switch first := int(s[at]); {
		case first == 0:
			return at + 1, api.OK
		case first >= 192:
			if at+2 > len(s) {
				return 0, api.ErrMore
			}
			return at + 2, api.OK
		case first >= 64:
			return 0, api.ErrBad
		default:
			at += 1 + first
		}
	}
	return 0, api.ErrMore
}

// goods is a row of names that may be.
func goods() []string {
	return []string{
		"", wire("a"), wire("A"), wire("ab"), wire("a", "b"), wire("www", "Example", "COM"), wire("*", "a"), wire("\x00"), wire("\x00", "\x01a", "\x00"),
		wire("\xff\xc0", "\xc0\x00"), wire(".", "\\"), wire("é"), wire(strings.Repeat("\xc0", 63)), wire(strings.Repeat("a", 62), "b"),
		small(253), small(254), great(194), great(253), great(254),
	}
}

// The chapter's examples.
func TestExamples(t *testing.T) {
	check(t, "\x01a\x01b\x00\x01c\xc0\x02", 5, pointed("\x01c\x01b", 9, 1))
	check(t, "\xc0\x00", 0, astray(api.ErrBad, 2))
}

// P8.1: names without pointers, at whatever place, whatever is ahead or behind.
func TestNamesWithoutPointers(t *testing.T) {
	for _, n := range goods() {
		for _, ahead := range []string{"", "\x00", "\xc0\x00", "\x3f", "\x40\x80", "\xff\xff\xff", strings.Repeat("\xc0", 300), strings.Repeat("\x00", 70000)} {
			for _, behind := range []string{"", "\x00", "\x01", "\x40", "\xc0", "\xc0\x00", "abc", strings.Repeat("\xff", 300)} {
				check(t, ahead+n+"\x00"+behind, len(ahead), whole(n, len(ahead)+len(n)+1))
			}
		}
	}
}

// P8.1: from each label on, the rest of a name is a name.
func TestRests(t *testing.T) {
	s := "\x01a\x02bc\x03DEF\x00\x01x"
	check(t, s, 0, whole("\x01a\x02bc\x03DEF", 10))
	check(t, s, 2, whole("\x02bc\x03DEF", 10))
	check(t, s, 5, whole("\x03DEF", 10))
	check(t, s, 9, whole("", 10))
	check(t, s, 10, all(api.ErrMore))
	check(t, s, 12, all(api.ErrMore))
	for _, at := range []int{1, 3, 4, 6, 7, 8, 11} { // letters: 64 to 191
		check(t, s, at, all(api.ErrBad))
	}
}

// P8.1: names with pointers: the end is behind the first one.
func TestNamesWithPointers(t *testing.T) {
	// a.b at 0, c.b at 5, d.c.b at 9, a.b at 13, C.c.b at 15; the root at 4, and by a pointer at 19.
	s := "\x01a\x01b\x00" + "\x01c\xc0\x02" + "\x01d\xc0\x05" + "\xc0\x00" + "\x01C\xc0\x05" + "\xc0\x04" + "tail"
	check(t, s, 5, pointed("\x01c\x01b", 9, 1))
	check(t, s, 7, pointed("\x01b", 9, 1))
	check(t, s, 9, pointed("\x01d\x01c\x01b", 13, 2))
	check(t, s, 11, pointed("\x01c\x01b", 13, 2))
	check(t, s, 13, pointed("\x01a\x01b", 15, 1))
	check(t, s, 15, pointed("\x01C\x01c\x01b", 19, 2))
	check(t, s, 19, pointed("", 21, 1))
}

// P8.1: a run goes on over whatever stands there, the pointers that led to it, too.
func TestRunsOverPointers(t *testing.T) {
	check(t, "\x05ab\xc0\x00c\x00", 3, pointed("\x05ab\xc0\x00c", 5, 1))             // a label that has the pointer
	check(t, "\x03ab\xc0\x00\x00", 3, pointed("\x03ab\xc0", 5, 1))                   // one that has half of it; the other half is the nought
	check(t, "\x01\x00\xc0\x01", 2, pointed("", 4, 1))                               // into a label
	check(t, "\x02\x01a\x00\xc0\x01", 4, pointed("\x01a", 6, 1))                     // a label's octets as labels
	check(t, "\x00\xc0\x00\xc0\x01\xc0\x03\xc0\x05", 7, pointed("", 9, 4))           // pointers to pointers alone
	check(t, "\x00\x01b\xc0\x00\x01a\xc0\x01", 5, pointed("\x01a\x01b", 9, 2))       // a label in each run
	check(t, "\x01a\x00\xc0\x00\x01b\xc0\x00", 5, pointed("\x01b\x01a", 9, 1))       // past another pointer
	check(t, "\x02\xc0\x00\x00\x01x\xc0\x00", 4, pointed("\x01x\x02\xc0\x00", 8, 1)) // a label whose octets look like a pointer
}

// P8.1: a pointer leads ahead of where its run began, or nowhere.
func TestPointersThatDoNotLeadAhead(t *testing.T) {
	for _, c := range []struct {
		s       string
		at, end int
	}{
		{"\xc0\x00", 0, 2},                               // to itself
		{"\xc0\x02\x00", 0, 2},                           // behind itself
		{"\xc0\x01\x00", 0, 2},                           // into itself
		{"\x01a\xc0\x00", 0, 4},                          // to where its run began
		{"\x01a\x01b\xc0\x02", 0, 6},                     // ahead of itself, but not of its run
		{"\x01a\xc0\x04\x00", 0, 4},                      // behind
		{"\x00\xc0\x01", 1, 3},                           // to itself, with a nought ahead
		{"\x00\x01a\xc0\x01", 1, 5},                      // to where its run began
		{"\x01a\xc0\x00", 2, 4},                          // run 2 comes to the pointer that led to it
		{"\x00\x01a\xc0\x01\x01b\xc0\x01", 5, 9},         // run 2 to where it began
		{"\x00\xc0\x03\x00\xc0\x01", 4, 6},               // run 2 to a place ahead of the name, not of itself
		{"\x00\xc0\x04\x00\xc0\x01", 4, 6},               // run 2 to where run 1 began
		{"\x00\xc0\x01\xc0\x01\xc0\x03", 5, 7},           // run 3 to itself
		{"\xff\xff", 0, 2},                               // beyond the octets
		{"\x00\xff\xff" + "\x00", 1, 3},                  // beyond the octets
		{"\x01a\xff\xff", 0, 4},                          // beyond the octets
		{"\xc0\x00\xc0\x00", 2, 4},                       // run 2 to itself
		{"\xc0\x02\xc0\x00", 2, 4},                       // to and fro
		{"\xc0\x02\xc0\x00", 0, 2},                       // to and fro
		{"\x00" + strings.Repeat("\xc0\x01", 9), 17, 19}, // all to the first of them
	} {
		check(t, c.s, c.at, astray(api.ErrBad, c.end))
	}
}

// P8.1: a pointer's place is all of its two octets but the two highest bits.
func TestPlacesOfPointers(t *testing.T) {
	noughts := strings.Repeat("\x00", reach)
	for to := range reach {
		s := noughts[:to] + "\x01a" + noughts[:2]
		from := len(s)
		s += pointer(to)
		n, end, e := unpack.Name(s, from)
		if n != "\x01a" || end != from+2 || e != api.OK {
			t.Fatalf("a pointer to %d: %q, %d, %d", to, n, end, e)
		}
	}
	for _, at := range []int{0, 1, 255, 256, 257, 4095, 4096, 16382, 16383} {
		s := noughts[:at]
		check(t, s+pointer(at), at, astray(api.ErrBad, at+2))
		if at > 0 {
			check(t, s+pointer(at-1), at, pointed("", at+2, 1))
		}
		if at+1 < reach {
			check(t, s+pointer(at+1)+noughts, at, astray(api.ErrBad, at+2))
		}
	}
	far := noughts + noughts + noughts
	check(t, far+pointer(reach-1), len(far), pointed("", len(far)+2, 1))
}

// P8.1: each first octet.
func TestFirstOctets(t *testing.T) {
	ahead := strings.Repeat("\x00", reach)
	rest := strings.Repeat("x", 191) + "\x00"
	for first := range 256 {
		s := ahead + string([]byte{byte(first)}) + rest
		switch {
		case first == 0:
			check(t, s, reach, whole("", reach+1))
		case first < 64: // an x is no length
			check(t, s, reach, all(api.ErrBad))
			l := s[reach : reach+1+first]
			check(t, ahead+l+"\x00", reach, whole(l, reach+first+2))
			check(t, ahead+l, reach, all(api.ErrMore))
			check(t, ahead+l[:first], reach, all(api.ErrMore))
		case first < 192:
			check(t, s, reach, all(api.ErrBad))
			check(t, s[:reach+1], reach, all(api.ErrBad))
			check(t, ahead+"\x01a"+s[reach:], reach, all(api.ErrBad))
		default:
			check(t, s, reach, pointed("", reach+2, 1))
			check(t, s[:reach+1], reach, all(api.ErrMore))
		}
	}
}

// P8.1: octets that end too early, wherever they do.
func TestOctetsThatAreMissing(t *testing.T) {
	check(t, "", 0, all(api.ErrMore))
	for _, n := range goods() {
		s := n + "\x00"
		for cut := range len(s) {
			check(t, s[:cut], 0, all(api.ErrMore))
		}
		s = "\x01r\x00" + n + "\xc0\x00"
		for cut := 3; cut < len(s); cut++ {
			check(t, s[:cut], 3, all(api.ErrMore))
		}
	}
	// The octets are missing in a run behind a pointer.
	check(t, "\x3fab\xc0\x00", 3, astray(api.ErrMore, 5))
	check(t, "\x04ab\xc0\x00", 3, astray(api.ErrMore, 5))
	check(t, "\x03ab\xc0\x00", 3, pointed("\x03ab\xc0", 5, 1))
	check(t, "\x03ab\xc0\x00\xc0", 3, pointed("\x03ab\xc0", 5, 1))
	check(t, "\x02ab\xc0\x00", 4, whole("", 5))
	check(t, "\x01a\x03\xc0\x00b\xc0", 3, astray(api.ErrMore, 5)) // half a pointer
}

// P8.1: more than 254 octets are too many, in one run or in several.
func TestNamesThatAreTooLong(t *testing.T) {
	for _, n := range []string{small(255), small(256), great(255), great(256), strings.Repeat(small(254), 3)} {
		check(t, n+"\x00", 0, want{name: wrong(api.ErrLong), plain: wrong(api.ErrLong), skip: answer{"", len(n) + 1, api.OK}})
	}
	for ahead := 2; ahead <= 60; ahead++ {
		for behind := 194; behind <= 254; behind++ {
			s := great(behind) + "\x00" + small(ahead) + pointer(0)
			w := astray(api.ErrLong, len(s))
			if ahead+behind <= mostName {
				w = pointed(small(ahead)+great(behind), len(s), 1)
			}
			check(t, s, behind+1, w)
		}
	}
	// A run of octets that are labels all of them.
	long := strings.Repeat("\x01a", 40000)
	check(t, long, 0, want{name: wrong(api.ErrLong), plain: wrong(api.ErrLong), skip: wrong(api.ErrMore)})
	check(t, long+"\x00", 0, want{name: wrong(api.ErrLong), plain: wrong(api.ErrLong), skip: answer{"", 80001, api.OK}})
}

// P8.1: the error that reading comes to first is told; of one label, that octets are missing ahead of that the name is too long.
func TestWhichErrorComesFirst(t *testing.T) {
	full := small(254)
	for _, c := range []struct {
		s    string
		e    api.Errno // of Name and Plain
		skip answer
	}{
		{full, api.ErrMore, wrong(api.ErrMore)},
		{full + "\x40", api.ErrBad, wrong(api.ErrBad)},
		{full + "\xbf", api.ErrBad, wrong(api.ErrBad)},
		{full + "\xc0", api.ErrMore, wrong(api.ErrMore)},
		{full + "\xff\xff", api.ErrBad, answer{"", 256, api.OK}},
		{full + "\x01", api.ErrMore, wrong(api.ErrMore)},
		{full + "\x02a", api.ErrMore, wrong(api.ErrMore)},
		{full + "\x3f" + strings.Repeat("a", 62), api.ErrMore, wrong(api.ErrMore)},
		{full + "\x3f" + strings.Repeat("a", 63), api.ErrLong, wrong(api.ErrMore)},
		{full + "\x01a", api.ErrLong, wrong(api.ErrMore)},
		{full + "\x01a\x40", api.ErrLong, wrong(api.ErrBad)},
		{full + "\x01a\xc0", api.ErrLong, wrong(api.ErrMore)},
		{full + "\x01a\xff\xff", api.ErrLong, answer{"", 258, api.OK}},
		{full + "\x01a\x01b\x00", api.ErrLong, answer{"", 259, api.OK}},
		{"\x40", api.ErrBad, wrong(api.ErrBad)},
		{"\x40\xc0", api.ErrBad, wrong(api.ErrBad)},
		{"\x01a\x80", api.ErrBad, wrong(api.ErrBad)},
		{"\x01a\x80\x02", api.ErrBad, wrong(api.ErrBad)},
		{"\xff", api.ErrMore, wrong(api.ErrMore)},
		{"\x01a\xc0", api.ErrMore, wrong(api.ErrMore)},
		{"\x01a\x02b", api.ErrMore, wrong(api.ErrMore)},
		{"\x01a\x02\x40", api.ErrMore, wrong(api.ErrMore)},
		{"\x01a\xff\xff\x40", api.ErrBad, answer{"", 4, api.OK}},
	} {
		w := want{name: wrong(c.e), plain: wrong(c.e), skip: c.skip}
		check(t, c.s, 0, w)
		const ahead = "\x00\x40\xc0"
		if w.skip.e == api.OK {
			w.skip.end += len(ahead)
		}
		check(t, ahead+c.s, len(ahead), w)
	}
}

// P8.1: an error in a run behind a pointer, which Plain and Skip don't come to.
func TestErrorsBehindPointers(t *testing.T) {
	check(t, "\x40\x01a\xc0\x00", 1, astray(api.ErrBad, 5))
	check(t, "\x01b\xbf\x01a\xc0\x00", 3, astray(api.ErrBad, 7))
	check(t, "\x00\x3f\x01a\xc0\x01", 2, astray(api.ErrMore, 6))
	check(t, small(254)+"\x00"+"\x01a\xc0\x00", 255, astray(api.ErrLong, 259))
	check(t, small(254)+"\x40"+"\x01a\xc0\x00", 255, astray(api.ErrLong, 259))
	check(t, small(252)+"\x40"+"\x01a\xc0\x00", 253, astray(api.ErrBad, 257))
	// The name is too long where the third of its runs adds to it.
	check(t, small(150)+"\x00"+small(100)+"\xc0\x00"+"\x04abcd\xc0\x97", 253, astray(api.ErrLong, 260))
	check(t, small(150)+"\x00"+small(100)+"\xc0\x00"+"\x03abc\xc0\x97", 253, pointed("\x03abc"+small(100)+small(150), 259, 2))
}

// P8.1: places that may not be, whatever the octets.
func TestPlacesThatMayNotBe(t *testing.T) {
	for _, s := range []string{"", "\x00", "\x01a\x00", "\xc0\x00", "\x40", strings.Repeat("\x00", 70000)} {
		for _, at := range []int{math.MinInt, math.MinInt32, -2, -1, len(s) + 1, len(s) + 2, math.MaxInt32, math.MaxInt - 1, math.MaxInt} {
			check(t, s, at, all(api.ErrArg))
		}
		check(t, s, len(s), all(api.ErrMore))
	}
}

// P8.1 and P8.2: as many pointers as there can be, each ahead of the one before.
func TestManyPointers(t *testing.T) {
	s := "\x00\x00"
	for to := 0; to < reach; to += 2 {
		at := len(s)
		s += pointer(to)
		if at%1000 == 0 || at > reach-10 {
			check(t, s, at, pointed("", at+2, at/2))
		}
	}
}

// P8.1: a run for each label, up to the longest name and beyond.
func TestManyRuns(t *testing.T) {
	s, n, from := "\x01z\x00", "\x01z", 0
	for jumps := 1; jumps < 200; jumps++ {
		at := len(s)
		s += "\x01a" + pointer(from)
		n, from = "\x01a"+n, at
		w := astray(api.ErrLong, at+4)
		if len(n) <= mostName {
			w = pointed(n, at+4, jumps)
		}
		check(t, s, at, w)
	}
}

// P8.2: what is ahead of the runs, between and behind them doesn't matter.
func TestOctetsBesideTheRuns(t *testing.T) {
	for _, c := range []byte{0, 1, 2, 63, 64, 'a', 191, 192, 255} {
		x := string([]byte{c})
		check(t, x+"\x01b\x00"+x+"\x01a\xc0\x01"+x, 5, pointed("\x01a\x01b", 9, 1))
		check(t, x+x+"\x01b\x00"+x+x+x+"\xc0\x02"+x+x, 8, pointed("\x01b", 10, 1))
		check(t, x+x+x+"\x01A\x00"+x+x, 3, whole("\x01A", 6))
	}
}

// draws is a row of numbers as good as drawn, the same each time.
type draws struct{ state uint32 }

func (d *draws) below(n int) int {
	d.state = d.state*1664525 + 1013904223
	return int(d.state>>8) % n
}

// name is one of many names whose rests are often alike, some of them long.
func (d *draws) name() string {
	var row []string
	for range d.below(6) {
		l := string([]byte{"abAB"[d.below(4)]})
		if d.below(9) == 0 {
			l = strings.Repeat(l, 1+d.below(40))
		}
		row = append(row, l)
	}
	return wire(row...)
}

// P8.2: what pack put is read, with pointers and without, whatever stands between, beyond 2^14, too.
func TestWhatPackPutIsRead(t *testing.T) {
	type stands struct {
		n        string
		at, end  int
		pointers bool // whether it may have some
	}
	for seed := range 10 {
		d, p := &draws{uint32(seed)}, pack.New(20000)
		var row []stands
		for {
			n, at := d.name(), p.Len()
			put := p.Name
			plain := d.below(4) == 0
			if plain {
				put = p.Plain
			}
			if put(api.Name(n)) != api.OK {
				break
			}
			row = append(row, stands{n, at, p.Len(), !plain})
			p.Put(strings.Repeat("\xc0", d.below(9)))
		}
		s := p.Text()
		for _, r := range row {
			jumps := unpack.Jumps(s, r.at)
			switch {
			case jumps == 0:
				check(t, s, r.at, whole(r.n, r.end))
			case r.pointers:
				check(t, s, r.at, pointed(r.n, r.end, jumps))
			default:
				t.Errorf("seed %d: %s, put without pointers at %d, has %d", seed, short(r.n), r.at, jumps)
			}
		}
		if t.Failed() {
			t.Fatalf("seed %d", seed)
		}
	}
	for _, n := range goods() {
		p := pack.New(1000)
		p.Put("\xc0\x00\x40")
		p.Name(api.Name(n))
		p.Name(api.Name(n))
		s, second := p.Text(), 3+len(n)+1
		check(t, s, 3, whole(n, second))
		if n == "" {
			check(t, s, second, whole(n, second+1))
			continue
		}
		check(t, s, second, pointed(n, second+2, 1))
	}
}

// each tells all rows of octets out of some, up to a length.
func each(some string, length int, tell func(string)) {
	var grow func(string)
	grow = func(s string) {
		tell(s)
		if len(s) == length {
			return
		}
		for i := range len(some) {
			grow(s + some[i:i+1])
		}
	}
	grow("")
}

// P8.1 and P8.2: all short rows of a few octets, at all places, held against the model.
func TestAllShortRows(t *testing.T) {
	for _, c := range []struct {
		some   string
		length int
	}{{"\x00\x01\x02\x40\xc0", 6}, {"\x00\x01\x03\xc0", 7}, {"\x00\x02\x3f\x7f\xbf\xc1\xff", 5}} {
		each(c.some, c.length, func(s string) {
			for at := -1; at <= len(s)+1; at++ {
				check(t, s, at, model(s, at))
			}
			if t.Failed() {
				t.FailNow()
			}
		})
	}
}

// octets is a row of parts in which pointers lead to parts, or close by, as often as not.
func (d *draws) octets(n int) string {
	var row []byte
	starts := []int{0}
	for len(row) < n {
		starts = append(starts, len(row))
		switch kind := d.below(32); {
		case kind < 16:
			l := strings.Repeat("x", 1+d.below(4)*d.below(21))
			row = append(append(row, byte(len(l))), l...)
		case kind < 28:
			to := starts[len(starts)-1-d.below(min(len(starts), 12))]
			row = append(row, pointer(to+d.below(8)/7)...)
		case kind < 31:
			row = append(row, 0)
		default:
			row = append(row, byte(d.below(256)))
		}
	}
	return string(row)
}

// P8.1 and P8.2: long rows, at all places, held against the model.
func TestLongRows(t *testing.T) {
	good, long, far := 0, 0, 0
	for seed := range 400 {
		d := &draws{uint32(seed)}
		s := d.octets(20 + d.below(1500))
		for at := range len(s) + 1 {
			w := model(s, at)
			check(t, s, at, w)
			switch {
			case w.name.e == api.OK:
				good++
			case w.name.e == api.ErrLong:
				long++
			}
			far = max(far, w.jumps)
		}
		if t.Failed() {
			t.Fatalf("seed %d", seed)
		}
	}
	if good < 1000 || long < 100 || far < 5 {
		t.Errorf("the rows tell too little: %d names, %d too long, %d pointers at most", good, long, far)
	}
}

// T6: an answer depends on the arguments alone, whatever was asked between.
func TestAskedAgain(t *testing.T) {
	s := "\x01a\x01b\x00\x01c\xc0\x02\x40"
	for range 3 {
		for at := -1; at <= len(s)+1; at++ {
			check(t, s, at, model(s, at))
		}
		check(t, s, 5, pointed("\x01c\x01b", 9, 1))
		check(t, s, 9, all(api.ErrBad))
		check(t, s, 0, whole("\x01a\x01b", 5))
	}
}
