package clock_test

import (
	"math"
	"math/big"
	"slices"
	"testing"

	"nameplate/api"
	"nameplate/clock"
)

const most = 1 << 40 // MaxTick by the document's number

// Numbers that are ticks, and numbers that are none.
var (
	ticks   = []int64{0, 1, 2, 255, 1<<31 - 1, 1 << 31, 1<<32 - 1, 1 << 32, 1<<32 + 1, most/2 - 1, most / 2, most/2 + 1, most - 1, most}
	noTicks = []int64{math.MinInt64, math.MinInt64 + 1, -most - 1, -most, -most + 1, -1 << 32, -1 << 31, -2, -1, most + 1, most + 2, 2 * most, 1 << 62, math.MaxInt64 - most, math.MaxInt64 - 1, math.MaxInt64}
	numbers = slices.Concat(ticks, noTicks)
	ttls    = []uint32{0, 1, 2, 3, 254, 255, 256, 1<<16 - 1, 1 << 16, 1<<31 - 2, 1<<31 - 1, 1 << 31, 1<<31 + 1, math.MaxUint32 - 1, math.MaxUint32}
)

// drawn is a row of numbers that look as by chance, and are the same each time.
type drawn uint64

func (d *drawn) next() uint64 {
	*d = *d*6364136223846793005 + 1442695040888963407
	return uint64(*d) ^ uint64(*d)>>29
}

// tick is a tick, or a number beside, by chance.
func (d *drawn) tick() int64 {
	switch d.next() >> 11 % 8 {
	case 0:
		return int64(d.next())
	case 1:
		return numbers[int(d.next()>>13)%len(numbers)]
	case 2:
		return int64(d.next()>>13%8) - 2
	case 3:
		return most + 3 - int64(d.next()>>13%8)
	}
	return int64(d.next() >> 3 % (most + 1))
}

// great is v without bounds, in which nothing goes round.
func great[T int64 | uint32](v T) *big.Int { return big.NewInt(int64(v)) }

func isTick(t int64) bool {
	return great(t).Sign() >= 0 && great(t).Cmp(great(int64(most))) <= 0
}

// sum, age and left are Add, Age and Left by the chapter's words, over numbers without bounds.
func sum(t, n int64) (int64, api.Errno) {
	s := new(big.Int).Add(great(t), great(n))
	switch {
	case !isTick(t):
		return 0, api.ErrArg
	case great(n).Sign() < 0:
		return 0, api.ErrArg
	case s.Cmp(great(int64(most))) > 0:
		return 0, api.ErrLong
	}
	return s.Int64(), api.OK
}

func age(from, now int64) (int64, api.Errno) {
	d := new(big.Int).Sub(great(now), great(from))
	if !isTick(from) || !isTick(now) || d.Sign() < 0 {
		return 0, api.ErrArg
	}
	return d.Int64(), api.OK
}

func left(ttl uint32, from, now int64) (uint32, bool) {
	gone, e := age(from, now)
	rest := new(big.Int).Sub(great(ttl), great(gone))
	if e != api.OK || rest.Sign() <= 0 {
		return 0, false
	}
	return uint32(rest.Int64()), true
}

func checkAdd(t *testing.T, at, n int64) {
	t.Helper()
	got, e := clock.Add(at, n)
	want, wantE := sum(at, n)
	if got != want || e != wantE {
		t.Errorf("Add(%d, %d) = %d, %d; want %d, %d", at, n, got, e, want, wantE)
	}
}

func checkAge(t *testing.T, from, now int64) {
	t.Helper()
	got, e := clock.Age(from, now)
	want, wantE := age(from, now)
	if got != want || e != wantE {
		t.Errorf("Age(%d, %d) = %d, %d; want %d, %d", from, now, got, e, want, wantE)
	}
}

func checkLeft(t *testing.T, ttl uint32, from, now int64) {
	t.Helper()
	got, some := clock.Left(ttl, from, now)
	want, wantSome := left(ttl, from, now)
	if got != want || some != wantSome {
		t.Errorf("Left(%d, %d, %d) = %d, %t; want %d, %t", ttl, from, now, got, some, want, wantSome)
	}
}

func TestExamples(t *testing.T) {
	if v, some := clock.Left(5, 10, 14); v != 1 || !some {
		t.Errorf("Left(5, 10, 14) = %d, %t", v, some)
	}
	if v, some := clock.Left(5, 10, 15); v != 0 || some {
		t.Errorf("Left(5, 10, 15) = %d, %t", v, some)
	}
	if v := clock.Clamp(9, 1, 5); v != 5 {
		t.Errorf("Clamp(9, 1, 5) = %d", v)
	}
	if v := clock.Clamp(9, 20, 5); v != 5 {
		t.Errorf("Clamp(9, 20, 5) = %d", v)
	}
}

// P12.1, Check: ticks, and what is none, at both ends and beside them.
func TestCheck(t *testing.T) {
	if api.MaxTick != most {
		t.Fatalf("MaxTick is %d", int64(api.MaxTick))
	}
	for _, v := range ticks {
		if e := clock.Check(v); e != api.OK {
			t.Errorf("Check(%d) = %d", v, e)
		}
	}
	for _, v := range noTicks {
		if e := clock.Check(v); e != api.ErrArg {
			t.Errorf("Check(%d) = %d", v, e)
		}
	}
}

// P12.1, Add: each error by itself, and which comes first where several apply.
func TestAddErrors(t *testing.T) {
	for _, c := range []struct {
		at, n, want int64
		e           api.Errno
	}{
		{0, 0, 0, api.OK},
		{0, most, most, api.OK},
		{0, most + 1, 0, api.ErrLong},
		{0, math.MaxInt64, 0, api.ErrLong},
		{1, most - 1, most, api.OK},
		{1, most, 0, api.ErrLong},
		{5, 7, 12, api.OK},
		{most, 0, most, api.OK},
		{most, 1, 0, api.ErrLong},
		{most, -1, 0, api.ErrArg}, // the sum is a tick, but n is below 0
		{most, math.MaxInt64, 0, api.ErrLong},
		{most, math.MinInt64, 0, api.ErrArg},
		{most - 1, 1, most, api.OK},
		{most - 1, 2, 0, api.ErrLong},
		{0, -1, 0, api.ErrArg},
		{0, math.MinInt64, 0, api.ErrArg},
		{-1, 0, 0, api.ErrArg},
		{-1, 1, 0, api.ErrArg}, // the sum is a tick, but t is none
		{-1, -1, 0, api.ErrArg},
		{-1, math.MaxInt64, 0, api.ErrArg}, // above MaxTick, but ErrArg is named first
		{most + 1, 0, 0, api.ErrArg},
		{most + 1, 1, 0, api.ErrArg},
		{most + 1, -1, 0, api.ErrArg},
		{math.MaxInt64, 1, 0, api.ErrArg},
		{math.MaxInt64, math.MaxInt64, 0, api.ErrArg},
		{math.MinInt64, math.MinInt64, 0, api.ErrArg},
		{math.MinInt64, math.MaxInt64, 0, api.ErrArg},
		{math.MinInt64, -1, 0, api.ErrArg},
	} {
		if got, e := clock.Add(c.at, c.n); got != c.want || e != c.e {
			t.Errorf("Add(%d, %d) = %d, %d; want %d, %d", c.at, c.n, got, e, c.want, c.e)
		}
	}
}

// P12.1, P12.2, Add: at and beside MaxTick from each tick; nothing goes round.
func TestAdd(t *testing.T) {
	for _, at := range numbers {
		for _, n := range numbers {
			checkAdd(t, at, n)
		}
	}
	for _, at := range ticks {
		for beside := int64(-3); beside <= 3; beside++ {
			checkAdd(t, at, most-at+beside)
			checkAdd(t, at, math.MaxInt64-at+min(beside, 0)) // the sum is the greatest number, or below
		}
		for beside := range int64(4) {
			checkAdd(t, at, math.MaxInt64-beside) // the sum would be below 0, if it went round
		}
	}
}

// P12.1, Age: of no ticks, of now ahead of from, at from, behind it.
func TestAge(t *testing.T) {
	for _, c := range []struct {
		from, now, want int64
		e               api.Errno
	}{
		{0, 0, 0, api.OK},
		{10, 10, 0, api.OK},
		{10, 11, 1, api.OK},
		{10, 9, 0, api.ErrArg},
		{0, most, most, api.OK},
		{most, most, 0, api.OK},
		{most, most - 1, 0, api.ErrArg},
		{most, 0, 0, api.ErrArg},
		{most - 1, most, 1, api.OK},
		{-1, 0, 0, api.ErrArg},
		{-1, -1, 0, api.ErrArg},
		{0, -1, 0, api.ErrArg},
		{0, most + 1, 0, api.ErrArg},
		{most, most + 1, 0, api.ErrArg},
		{most + 1, most + 1, 0, api.ErrArg},
		{most + 1, most + 2, 0, api.ErrArg},
		{math.MinInt64, math.MaxInt64, 0, api.ErrArg},
		{math.MaxInt64, math.MinInt64, 0, api.ErrArg},
		{math.MinInt64, 0, 0, api.ErrArg},
		{0, math.MaxInt64, 0, api.ErrArg},
	} {
		if got, e := clock.Age(c.from, c.now); got != c.want || e != c.e {
			t.Errorf("Age(%d, %d) = %d, %d; want %d, %d", c.from, c.now, got, e, c.want, c.e)
		}
	}
	for _, from := range numbers {
		for _, now := range numbers {
			checkAge(t, from, now)
		}
	}
}

// P12.1, Clamp: low below, at and above high; 0 and the greatest; at each bound and beside it.
func TestClamp(t *testing.T) {
	const all = math.MaxUint32
	for _, c := range [][4]uint32{
		{3, 1, 5, 3}, {1, 1, 5, 1}, {0, 1, 5, 1}, {5, 1, 5, 5}, {6, 1, 5, 5}, {2, 1, 5, 2}, {4, 1, 5, 4},
		{3, 4, 4, 4}, {4, 4, 4, 4}, {5, 4, 4, 4},
		{0, 20, 5, 5}, {5, 20, 5, 5}, {6, 20, 5, 5}, {20, 20, 5, 5}, {21, 20, 5, 5}, {4, 20, 5, 5},
		{0, 0, 0, 0}, {all, 0, 0, 0}, {7, 0, 0, 0}, {7, all, 0, 0},
		{0, 0, all, 0}, {all, 0, all, all}, {7, 0, all, 7}, {all - 1, 0, all, all - 1},
		{0, all, all, all}, {all, all, all, all}, {0, all, 7, 7}, {0, all - 1, all, all - 1},
		{1 << 31, 1, 1<<31 - 1, 1<<31 - 1}, {1<<31 - 1, 1 << 31, all, 1 << 31},
	} {
		if got := clock.Clamp(c[0], c[1], c[2]); got != c[3] {
			t.Errorf("Clamp(%d, %d, %d) = %d; want %d", c[0], c[1], c[2], got, c[3])
		}
	}
	for _, ttl := range ttls {
		for _, low := range ttls {
			for _, high := range ttls {
				want := ttl
				if want < low {
					want = low
				}
				if want > high {
					want = high
				}
				if got := clock.Clamp(ttl, low, high); got != want {
					t.Errorf("Clamp(%d, %d, %d) = %d; want %d", ttl, low, high, got, want)
				}
			}
		}
	}
}

// P12.1, Left: at the TTL's end, one tick ahead of it and behind it, from both ends of time.
func TestLeftAtTheEnd(t *testing.T) {
	for _, ttl := range ttls {
		for _, from := range []int64{0, 1, 10, 1 << 32, most - 1<<32, most - int64(ttl) - 1, most - int64(ttl), most - 1, most} {
			end := from + int64(ttl)
			for beside := int64(-2); beside <= 2; beside++ {
				checkLeft(t, ttl, from, end+beside)
				checkLeft(t, ttl, from, from+beside)
				checkLeft(t, ttl, from, end+beside+1<<32) // an age of which 32 bits would tell less
			}
			checkLeft(t, ttl, from, most)
		}
	}
	for _, c := range []struct {
		ttl       uint32
		from, now int64
		want      uint32
		some      bool
	}{
		{0, 10, 10, 0, false},
		{0, 10, 11, 0, false},
		{1, 10, 10, 1, true},
		{1, 10, 11, 0, false},
		{math.MaxUint32, 0, 0, math.MaxUint32, true},
		{math.MaxUint32, 0, 1, math.MaxUint32 - 1, true},
		{math.MaxUint32, 0, 1<<32 - 2, 1, true},
		{math.MaxUint32, 0, 1<<32 - 1, 0, false},
		{math.MaxUint32, 0, 1 << 32, 0, false},
		{math.MaxUint32, 7, 1<<32 + 7, 0, false},
		{5, 0, 1 << 32, 0, false}, // its low 32 bits are below the TTL
		{5, 0, 1<<32 + 1, 0, false},
		{5, most, most, 5, true},
		{5, most - 4, most, 1, true},
		{5, most - 5, most, 0, false},
	} {
		if got, some := clock.Left(c.ttl, c.from, c.now); got != c.want || some != c.some {
			t.Errorf("Left(%d, %d, %d) = %d, %t; want %d, %t", c.ttl, c.from, c.now, got, some, c.want, c.some)
		}
	}
}

// P12.1, Left: 0, false where Age has an error.
func TestLeftOfNoAge(t *testing.T) {
	for _, ttl := range ttls {
		for _, from := range numbers {
			for _, now := range numbers {
				checkLeft(t, ttl, from, now)
				if _, e := clock.Age(from, now); e == api.OK {
					continue
				}
				if got, some := clock.Left(ttl, from, now); got != 0 || some {
					t.Errorf("Left(%d, %d, %d) = %d, %t where Age has an error", ttl, from, now, got, some)
				}
			}
		}
	}
}

// P12.2: Left falls by one each tick, from full to none, and is told no more from the end on.
func TestLeftFalls(t *testing.T) {
	for _, ttl := range []uint32{0, 1, 2, 300} {
		for _, from := range []int64{0, 1, 77, 1<<32 - 100, most - 301} {
			for gone := range int64(302) {
				got, some := clock.Left(ttl, from, from+gone)
				want := max(int64(ttl)-gone, 0)
				if from+gone > most {
					want = 0
				}
				if int64(got) != want || some != (want > 0) {
					t.Fatalf("Left(%d, %d, %d) = %d, %t; want %d", ttl, from, from+gone, got, some, want)
				}
			}
		}
	}
}

// P12.1, Past: at, ahead of and behind the deadline, at both ends of what a number may be.
func TestPast(t *testing.T) {
	for _, c := range []struct {
		deadline, now int64
		want          bool
	}{
		{10, 9, false}, {10, 10, true}, {10, 11, true},
		{0, 0, true}, {0, -1, false}, {-1, 0, true}, {-1, -1, true}, {-1, -2, false},
		{most, most - 1, false}, {most, most, true}, {most, most + 1, true},
		{most + 1, most, false}, {most + 1, most + 1, true},
		{math.MinInt64, math.MinInt64, true}, {math.MinInt64, math.MinInt64 + 1, true}, {math.MinInt64 + 1, math.MinInt64, false},
		{math.MinInt64, 0, true}, {math.MinInt64, math.MaxInt64, true},
		{math.MaxInt64, math.MaxInt64, true}, {math.MaxInt64, math.MaxInt64 - 1, false}, {math.MaxInt64 - 1, math.MaxInt64, true},
		{math.MaxInt64, 0, false}, {math.MaxInt64, math.MinInt64, false},
		{0, math.MinInt64, false}, {0, math.MaxInt64, true},
	} {
		if got := clock.Past(c.deadline, c.now); got != c.want {
			t.Errorf("Past(%d, %d) = %t", c.deadline, c.now, got)
		}
	}
	for _, deadline := range numbers {
		for _, now := range numbers {
			if got, want := clock.Past(deadline, now), great(now).Cmp(great(deadline)) >= 0; got != want {
				t.Errorf("Past(%d, %d) = %t", deadline, now, got)
			}
		}
	}
}

// least is First by the chapter's words: the first place whose number none is below.
func least(l []int64) (int, bool) {
	for i, v := range l {
		if !slices.ContainsFunc(l, func(w int64) bool { return w < v }) {
			return i, true
		}
	}
	return 0, false
}

// checkFirst looks at First of l, and that l stays as it was, its spare room too.
func checkFirst(t *testing.T, l []int64) {
	t.Helper()
	whole := slices.Clone(l[:cap(l)])
	got, some := clock.First(l)
	want, wantSome := least(l)
	if got != want || some != wantSome {
		t.Errorf("First(%v) = %d, %t; want %d, %t", l, got, some, want, wantSome)
	}
	if !slices.Equal(l[:cap(l)], whole) {
		t.Errorf("First changed what it was handed: %v, was %v", l[:cap(l)], whole)
	}
}

func TestFirst(t *testing.T) {
	const low, high = math.MinInt64, math.MaxInt64
	for _, c := range []struct {
		l    []int64
		want int
		some bool
	}{
		{nil, 0, false},
		{[]int64{}, 0, false},
		{[]int64{low, -1, 0}[:0], 0, false},
		{[]int64{0}, 0, true},
		{[]int64{7}, 0, true},
		{[]int64{-7}, 0, true},
		{[]int64{low}, 0, true},
		{[]int64{high}, 0, true},
		{[]int64{5, 5}, 0, true},
		{[]int64{5, 5, 5, 5}, 0, true},
		{[]int64{0, 0, 0}, 0, true},
		{[]int64{high, high, high}, 0, true},
		{[]int64{low, low}, 0, true},
		{[]int64{9, 5, 7, 5}, 1, true},
		{[]int64{9, 5, 5, 7}, 1, true},
		{[]int64{1, 2, 3}, 0, true},
		{[]int64{3, 2, 1}, 2, true},
		{[]int64{3, 2, 1, 1}, 2, true},
		{[]int64{3, 1, 2}, 1, true},
		{[]int64{high, low}, 1, true},
		{[]int64{low, high}, 0, true},
		{[]int64{high, high - 1, high}, 1, true},
		{[]int64{low + 1, low, low + 1}, 1, true},
		{[]int64{0, -1, 1}, 1, true},
		{[]int64{0, high, low}, 2, true},
		{[]int64{2, 1, 0, 1}[:2], 1, true}, // behind its length nothing counts
	} {
		if got, some := clock.First(c.l); got != c.want || some != c.some {
			t.Errorf("First(%v) = %d, %t; want %d, %t", c.l, got, some, c.want, c.some)
		}
		checkFirst(t, c.l)
	}
}

// The least number at each place of rows up to so long, alone and again behind.
func TestFirstAtEachPlace(t *testing.T) {
	for n := 1; n <= 20; n++ {
		for at := range n {
			l := make([]int64, n, n+3)
			for i := range l {
				l[i] = int64(n - i)
			}
			l[at] = -1
			checkFirst(t, l)
			l[n-1] = -1
			checkFirst(t, l)
			slices.Reverse(l)
			checkFirst(t, l)
		}
	}
}

func TestDrawn(t *testing.T) {
	d := drawn(12)
	for range 20000 {
		at, n := d.tick(), d.tick()
		if e, want := clock.Check(at), !isTick(at); (e == api.ErrArg) != want || e != api.OK && e != api.ErrArg {
			t.Errorf("Check(%d) = %d", at, e)
		}
		checkAdd(t, at, n)
		checkAge(t, at, n)
		checkAge(t, min(at, n), max(at, n))
		ttl := uint32(d.next() >> (d.next() >> 7 % 64))
		checkLeft(t, ttl, at, n)
		now, e := clock.Add(at, n)
		if back, e2 := clock.Age(at, now); e == api.OK && (back != n || e2 != api.OK) {
			t.Errorf("Age(%d, %d) = %d, %d; want %d", at, now, back, e2, n)
		}
		l := make([]int64, d.next()>>9%9, 12)
		for i := range l {
			l[i] = d.tick()
			if i > 0 && d.next()>>21&1 == 0 {
				l[i] = l[int(d.next()>>11%uint64(i))]
			}
		}
		checkFirst(t, l)
	}
}
