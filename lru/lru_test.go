package lru_test

import (
	"fmt"
	"iter"
	"math"
	"slices"
	"strconv"
	"strings"
	"testing"
	"unsafe"

	"nameplate/api"
	"nameplate/lru"
)

// drawn is a row of numbers that look as by chance, and are the same each time.
type drawn uint64

func (d *drawn) next() uint64 {
	*d = *d*6364136223846793005 + 1442695040888963407
	return uint64(*d) ^ uint64(*d)>>29
}

// below is a number from 0 to below n.
func (d *drawn) below(n int) int { return int(d.next() >> 11 % uint64(n)) }

// pair is a key and its value, as All tells them.
type pair[V any] struct {
	key   string
	value V
}

func pairs[V any](all iter.Seq2[string, V]) []pair[V] {
	var row []pair[V]
	for key, v := range all {
		row = append(row, pair[V]{key, v})
	}
	return row
}

// model is a list by the chapter's words: a row, the one that was used last first.
type model[V any] struct {
	most int
	row  []pair[V]
}

func (m *model[V]) place(key string) int {
	return slices.IndexFunc(m.row, func(p pair[V]) bool { return p.key == key })
}

func (m *model[V]) keys() []string {
	var keys []string
	for _, p := range m.row {
		keys = append(keys, p.key)
	}
	return keys
}

func (m *model[V]) look(key string) (V, bool) {
	if i := m.place(key); i >= 0 {
		return m.row[i].value, true
	}
	var none V
	return none, false
}

func (m *model[V]) get(key string) (V, bool) {
	v, some := m.look(key)
	if some {
		m.drop(key)
		m.row = slices.Insert(m.row, 0, pair[V]{key, v})
	}
	return v, some
}

func (m *model[V]) put(key string, v V) (string, bool, api.Errno) {
	if m.most < 1 {
		return "", false, api.ErrFull
	}
	m.drop(key)
	m.row = slices.Insert(m.row, 0, pair[V]{key, v})
	if len(m.row) <= m.most {
		return "", false, api.OK
	}
	out := m.row[m.most].key
	m.row = m.row[:m.most]
	return out, true, api.OK
}

func (m *model[V]) drop(key string) bool {
	i := m.place(key)
	if i >= 0 {
		m.row = slices.Delete(m.row, i, i+1)
	}
	return i >= 0
}

// check holds all that a list tells against the row that it should have.
func check[V comparable](t *testing.T, l *lru.List[V], want []pair[V]) {
	t.Helper()
	if got := pairs(l.All()); !slices.Equal(got, want) {
		t.Fatalf("All = %v; want %v", got, want)
	}
	keys := (&model[V]{row: want}).keys()
	if got := l.Keys(); !slices.Equal(got, keys) {
		t.Fatalf("Keys = %q; want %q", got, keys)
	}
	if got := l.Len(); got != len(want) {
		t.Fatalf("Len = %d; want %d", got, len(want))
	}
	for _, p := range want {
		if v, some := l.Look(p.key); v != p.value || !some {
			t.Fatalf("Look of %q = %v, %v; want %v", p.key, v, some, p.value)
		}
	}
	if got := pairs(l.All()); !slices.Equal(got, want) {
		t.Fatalf("All = %v behind Look, Keys, Len and All; want %v", got, want)
	}
}

// put puts, where none should go.
func put[V any](t *testing.T, l *lru.List[V], key string, v V) {
	t.Helper()
	if out, some, e := l.Put(key, v); out != "" || some || e != api.OK {
		t.Fatalf("Put of %q = %q, %v, %v; want that none goes", key, out, some, e)
	}
}

// filled is a list with room for most to which the keys were put, the first with the value 1, and so on.
func filled(t *testing.T, most int, keys ...string) *lru.List[int] {
	t.Helper()
	l := lru.New[int](most)
	for i, key := range keys {
		put(t, l, key, i+1)
	}
	return l
}

// The chapter's example.
func TestExample(t *testing.T) {
	l := lru.New[string](2)
	put(t, l, "a", "x")
	put(t, l, "b", "y")
	if v, some := l.Get("a"); v != "x" || !some {
		t.Errorf("Get of a = %q, %v", v, some)
	}
	if out, some, e := l.Put("c", "z"); out != "b" || !some || e != api.OK {
		t.Errorf("Put of c = %q, %v, %v; want that b goes", out, some, e)
	}
	check(t, l, []pair[string]{{"c", "z"}, {"a", "x"}})
}

// P15.1: New's list is empty, and has room for none where most is not above 0.
func TestNew(t *testing.T) {
	for _, most := range []int{math.MinInt, -5, -1, 0, 1, 2, 1024, math.MaxInt} {
		l := lru.New[int](most)
		if l == nil {
			t.Fatalf("New of %d = nil", most)
		}
		check(t, l, nil)
		if v, some := l.Look("a"); v != 0 || some {
			t.Errorf("Look in a new list of %d = %d, %v", most, v, some)
		}
		out, some, e := l.Put("a", 7)
		if most < 1 {
			if out != "" || some || e != api.ErrFull {
				t.Errorf("Put in a list of %d = %q, %v, %v; want ErrFull", most, out, some, e)
			}
			check(t, l, nil)
			continue
		}
		if out != "" || some || e != api.OK {
			t.Errorf("Put in a list of %d = %q, %v, %v", most, out, some, e)
		}
		check(t, l, []pair[int]{{"a", 7}})
	}
}

// P15.1: a list that has room for none tells nothing, whatever was put, and stays so.
func TestNoRoom(t *testing.T) {
	for _, most := range []int{0, -1, math.MinInt} {
		l := lru.New[int](most)
		for _, key := range []string{"", "a", "a", "b"} {
			if out, some, e := l.Put(key, 7); out != "" || some || e != api.ErrFull {
				t.Errorf("Put of %q in a list of %d = %q, %v, %v; want ErrFull", key, most, out, some, e)
			}
			if v, some := l.Get(key); v != 0 || some {
				t.Errorf("Get of %q in a list of %d = %d, %v", key, most, v, some)
			}
			if v, some := l.Look(key); v != 0 || some {
				t.Errorf("Look of %q in a list of %d = %d, %v", key, most, v, some)
			}
			if l.Drop(key) {
				t.Errorf("Drop of %q in a list of %d: it was there", key, most)
			}
			check(t, l, nil)
			l.Clear()
		}
	}
}

// P15.1: a new key is first; where there are more than most then, the last one goes.
func TestPutNew(t *testing.T) {
	for most := 1; most <= 5; most++ {
		l := lru.New[int](most)
		var want []pair[int]
		for i := range 3*most + 1 {
			out, some, e := l.Put(strconv.Itoa(i), 10*i)
			want = slices.Insert(want, 0, pair[int]{strconv.Itoa(i), 10 * i})
			if i < most {
				if out != "" || some || e != api.OK {
					t.Fatalf("Put of %d in a list of %d = %q, %v, %v; want that none goes", i, most, out, some, e)
				}
			} else {
				want = want[:most]
				if out != strconv.Itoa(i-most) || !some || e != api.OK {
					t.Fatalf("Put of %d in a list of %d = %q, %v, %v; want that %d goes", i, most, out, some, e, i-most)
				}
				if v, some := l.Look(out); v != 0 || some {
					t.Fatalf("Look of %q, which went: %d, %v", out, v, some)
				}
			}
			check(t, l, want)
		}
	}
}

// P15.1: a key that is there already has the new value, and is first; none goes, be the list full or not.
func TestPutAgain(t *testing.T) {
	row := []string{"d", "c", "b", "a"}
	for _, most := range []int{4, 5, 100} {
		for i, key := range row {
			l := filled(t, most, "a", "b", "c", "d")
			put(t, l, key, 9)
			want := []pair[int]{{"d", 4}, {"c", 3}, {"b", 2}, {"a", 1}}
			want = slices.Insert(slices.Delete(want, i, i+1), 0, pair[int]{key, 9})
			check(t, l, want)
			put(t, l, key, 0)
			want[0].value = 0
			check(t, l, want)
		}
	}
	one := filled(t, 1, "a")
	put(t, one, "a", 2)
	check(t, one, []pair[int]{{"a", 2}})
	if out, some, e := one.Put("b", 3); out != "a" || !some || e != api.OK {
		t.Errorf("Put in a full list of 1 = %q, %v, %v; want that a goes", out, some, e)
	}
	check(t, one, []pair[int]{{"b", 3}})
}

// P15.1: a key that was put again is not the one that goes next.
func TestPutAgainStays(t *testing.T) {
	l := filled(t, 3, "a", "b", "c")
	put(t, l, "a", 4)
	for i, want := range []string{"b", "c", "a", "0", "1"} {
		if out, some, e := l.Put(strconv.Itoa(i), i); out != want || !some || e != api.OK {
			t.Fatalf("Put of %d = %q, %v, %v; want that %s goes", i, out, some, e, want)
		}
	}
}

// P15.1: Get has the key first from then on; the others stay in their order.
func TestGet(t *testing.T) {
	row := []string{"d", "c", "b", "a"}
	for _, most := range []int{4, 5} {
		for i, key := range row {
			l := filled(t, most, "a", "b", "c", "d")
			for range 2 {
				if v, some := l.Get(key); v != 4-i || !some {
					t.Fatalf("Get of %s = %d, %v; want %d", key, v, some, 4-i)
				}
				want := []pair[int]{{"d", 4}, {"c", 3}, {"b", 2}, {"a", 1}}
				check(t, l, slices.Insert(slices.Delete(want, i, i+1), 0, pair[int]{key, 4 - i}))
			}
		}
	}
	l := filled(t, 3, "a", "b", "c")
	l.Get("a")
	l.Get("b")
	for i, want := range []string{"c", "a", "b", "0"} {
		if out, some, e := l.Put(strconv.Itoa(i), i); out != want || !some || e != api.OK {
			t.Fatalf("Put of %d = %q, %v, %v; want that %s goes", i, out, some, e, want)
		}
	}
}

// P15.1: Look answers as Get does, but the order stays: so it does not keep a key from going.
func TestLook(t *testing.T) {
	l := filled(t, 3, "a", "b", "c")
	for range 2 {
		for i, key := range []string{"a", "b", "c"} {
			if v, some := l.Look(key); v != i+1 || !some {
				t.Errorf("Look of %s = %d, %v; want %d", key, v, some, i+1)
			}
			check(t, l, []pair[int]{{"c", 3}, {"b", 2}, {"a", 1}})
		}
	}
	for i, want := range []string{"a", "b", "c", "0"} {
		l.Look(want)
		if out, some, e := l.Put(strconv.Itoa(i), i); out != want || !some || e != api.OK {
			t.Fatalf("Put of %d = %q, %v, %v; want that %s goes", i, out, some, e, want)
		}
	}
}

// P15.1: Get and Look of a key that is not there tell the zero value and false, Drop tells false, and the list stays as it is: a key is there byte by byte.
func TestNotThere(t *testing.T) {
	l := filled(t, 4, "a", "bc", "", "D\x00")
	want := []pair[int]{{"D\x00", 4}, {"", 3}, {"bc", 2}, {"a", 1}}
	for _, key := range []string{"A", "b", "bcd", "BC", " ", "\x00", "D", "d\x00", "D\x00\x00", "aa", strings.Repeat("a", 70000), "\xff"} {
		if v, some := l.Get(key); v != 0 || some {
			t.Errorf("Get of %q = %d, %v", key, v, some)
		}
		check(t, l, want)
		if v, some := l.Look(key); v != 0 || some {
			t.Errorf("Look of %q = %d, %v", key, v, some)
		}
		check(t, l, want)
		if l.Drop(key) {
			t.Errorf("Drop of %q: it was there", key)
		}
		check(t, l, want)
	}
}

// P15.1: any text is a key, the empty one too, and what goes for it is told with true.
func TestOddKeys(t *testing.T) {
	keys := []string{"", "\x00", "\xff\xfe", "a", "A", "\xc3\xa4", strings.Repeat("x", 70000)}
	l := lru.New[int](1)
	put(t, l, keys[0], 0)
	for i, key := range keys[1:] {
		if out, some, e := l.Put(key, i+1); out != keys[i] || !some || e != api.OK {
			t.Errorf("Put of the key %d = %q, %v, %v; want that %q goes", i+1, out, some, e, keys[i])
		}
		check(t, l, []pair[int]{{key, i + 1}})
	}
	if out, some, e := l.Put("", 9); out != keys[len(keys)-1] || !some || e != api.OK {
		t.Errorf("Put of the empty key: %v, %v", some, e)
	}
	if v, some := l.Get(""); v != 9 || !some || !l.Drop("") || l.Drop("") {
		t.Errorf("Get of the empty key = %d, %v, or Drop is wrong", v, some)
	}
	check(t, l, nil)
}

// P15.1: Drop has a key go, wherever it stands, and makes room.
func TestDrop(t *testing.T) {
	row := []string{"d", "c", "b", "a"}
	for i, key := range row {
		l := filled(t, 4, "a", "b", "c", "d")
		if !l.Drop(key) {
			t.Errorf("Drop of %s: it was not there", key)
		}
		want := slices.Delete([]pair[int]{{"d", 4}, {"c", 3}, {"b", 2}, {"a", 1}}, i, i+1)
		check(t, l, want)
		if l.Drop(key) {
			t.Errorf("Drop of %s again: it was there", key)
		}
		if v, some := l.Get(key); v != 0 || some {
			t.Errorf("Get of %s, which was dropped: %d, %v", key, v, some)
		}
		check(t, l, want)
		put(t, l, key, 9)
		want = slices.Insert(want, 0, pair[int]{key, 9})
		check(t, l, want)
		if out, some, e := l.Put("e", 10); out != want[3].key || !some || e != api.OK {
			t.Errorf("Put behind Drop of %s = %q, %v, %v; want that %s goes", key, out, some, e, want[3].key)
		}
		check(t, l, slices.Insert(want[:3], 0, pair[int]{"e", 10}))
	}
}

// P15.1: what was dropped, all of it and in any order, is there no more, and the list goes on.
func TestDropAll(t *testing.T) {
	for _, order := range [][]string{{"a", "b", "c"}, {"a", "c", "b"}, {"b", "a", "c"}, {"b", "c", "a"}, {"c", "a", "b"}, {"c", "b", "a"}} {
		l := filled(t, 3, "a", "b", "c")
		for i, key := range order {
			if !l.Drop(key) || l.Len() != 2-i {
				t.Errorf("Drop of %s out of %q; Len = %d", key, order, l.Len())
			}
		}
		check(t, l, nil)
		put(t, l, "b", 8)
		put(t, l, "a", 9)
		check(t, l, []pair[int]{{"a", 9}, {"b", 8}})
	}
}

// P15.1: Clear has all go, and the list has room for as many as before.
func TestClear(t *testing.T) {
	for most := range 5 {
		l := lru.New[int](most)
		l.Clear()
		check(t, l, nil)
		for range 3 {
			for i := range most {
				put(t, l, strconv.Itoa(i), i)
			}
			l.Clear()
			check(t, l, nil)
			for i := range most {
				if v, some := l.Get(strconv.Itoa(i)); v != 0 || some || l.Drop(strconv.Itoa(i)) {
					t.Errorf("Get of %d, which was cleared: %d, %v", i, v, some)
				}
			}
			l.Clear()
			check(t, l, nil)
		}
		if most == 0 {
			continue
		}
		var want []pair[int]
		for i := range most {
			put(t, l, strconv.Itoa(i), -i)
			want = slices.Insert(want, 0, pair[int]{strconv.Itoa(i), -i})
			check(t, l, want)
		}
		if out, some, e := l.Put("z", 5); out != "0" || !some || e != api.OK {
			t.Errorf("Put behind Clear in a list of %d = %q, %v, %v; want that 0 goes", most, out, some, e)
		}
	}
}

// P15.1: All tells what is there when it begins to be gone through, not what was there when it was asked for; each time anew.
func TestAllBegins(t *testing.T) {
	l := lru.New[int](3)
	all := l.All()
	check(t, l, pairs(all))
	put(t, l, "a", 1)
	put(t, l, "b", 2)
	if got := pairs(all); !slices.Equal(got, []pair[int]{{"b", 2}, {"a", 1}}) {
		t.Errorf("All = %v behind two of Put", got)
	}
	l.Get("a")
	put(t, l, "b", 3)
	put(t, l, "c", 4)
	for range 2 {
		if got := pairs(all); !slices.Equal(got, []pair[int]{{"c", 4}, {"b", 3}, {"a", 1}}) {
			t.Errorf("All = %v behind more calls", got)
		}
	}
	l.Clear()
	if got := pairs(all); len(got) != 0 {
		t.Errorf("All = %v behind Clear", got)
	}
	put(t, l, "d", 5)
	if got := pairs(all); !slices.Equal(got, []pair[int]{{"d", 5}}) {
		t.Errorf("All = %v behind Clear and Put", got)
	}
}

// P15.1: whatever is called meanwhile, All goes on with what was there when it began to be gone through; the calls count all the same.
func TestAllMeanwhile(t *testing.T) {
	was := []pair[int]{{"d", 4}, {"c", 3}, {"b", 2}, {"a", 1}}
	for _, c := range []struct {
		name string
		call func(l *lru.List[int], key string)
		want []pair[int]
	}{
		{"Put of new keys", func(l *lru.List[int], key string) { l.Put("new "+key, 0) }, []pair[int]{{"new a", 0}, {"new b", 0}, {"new c", 0}, {"new d", 0}}},
		{"Put of the key", func(l *lru.List[int], key string) { l.Put(key, 9) }, []pair[int]{{"a", 9}, {"b", 9}, {"c", 9}, {"d", 9}}},
		{"Put of the last key", func(l *lru.List[int], key string) { l.Put("a", l.Len()+5) }, []pair[int]{{"a", 9}, {"d", 4}, {"c", 3}, {"b", 2}}},
		{"Get of the key", func(l *lru.List[int], key string) { l.Get(key) }, []pair[int]{{"a", 1}, {"b", 2}, {"c", 3}, {"d", 4}}},
		{"Get of the last key", func(l *lru.List[int], key string) { l.Get(l.Keys()[3]) }, []pair[int]{{"d", 4}, {"c", 3}, {"b", 2}, {"a", 1}}},
		{"Look of all", func(l *lru.List[int], key string) { pairs(l.All()) }, was},
		{"Drop of the key", func(l *lru.List[int], key string) { l.Drop(key) }, nil},
		{"Drop of the last", func(l *lru.List[int], key string) { l.Drop(l.Keys()[l.Len()-1]) }, nil},
		{"Drop of the one behind", func(l *lru.List[int], key string) { l.Drop(string(key[0] - 1)) }, []pair[int]{{"d", 4}}},
		{"Clear", func(l *lru.List[int], key string) { l.Clear() }, nil},
		{"Clear and Put", func(l *lru.List[int], key string) { l.Clear(); l.Put(key+key, 8) }, []pair[int]{{"aa", 8}}},
	} {
		l := filled(t, 4, "a", "b", "c", "d")
		var got []pair[int]
		for key, v := range l.All() {
			got = append(got, pair[int]{key, v})
			c.call(l, key)
		}
		if !slices.Equal(got, was) {
			t.Errorf("All = %v with %s meanwhile; want %v", got, c.name, was)
		}
		check(t, l, c.want)
	}
}

// P15.1: All is left early, at any place, and is begun anew from the first on; one within the other goes its own way.
func TestAllLeft(t *testing.T) {
	l := filled(t, 3, "a", "b", "c")
	want := []pair[int]{{"c", 3}, {"b", 2}, {"a", 1}}
	all := l.All()
	for count := range 5 {
		var got []pair[int]
		for key, v := range all {
			if len(got) == count {
				break
			}
			got = append(got, pair[int]{key, v})
		}
		if !slices.Equal(got, want[:min(count, 3)]) {
			t.Errorf("All left behind %d = %v", count, got)
		}
	}
	calls := 0
	all(func(string, int) bool { calls++; return false })
	if calls != 1 {
		t.Errorf("All went on for %d calls though it was told to end at the first", calls)
	}
	var got []pair[int]
	for key, v := range all {
		for inner := range all {
			if inner == key {
				break
			}
			got = append(got, pair[int]{inner, v})
		}
	}
	if !slices.Equal(got, []pair[int]{{"c", 2}, {"c", 1}, {"b", 1}}) {
		t.Errorf("All within All = %v", got)
	}
	check(t, l, want)
}

// P15.1: of two that are begun at different times each tells what was there when it was begun.
func TestAllTwoBegun(t *testing.T) {
	l := filled(t, 2, "a", "b")
	next, stop := iter.Pull2(l.All())
	defer stop()
	if key, v, some := next(); key != "b" || v != 2 || !some {
		t.Fatalf("the first = %q, %d, %v", key, v, some)
	}
	if out, some, e := l.Put("c", 3); out != "a" || !some || e != api.OK {
		t.Fatalf("Put of c = %q, %v, %v", out, some, e)
	}
	other, end := iter.Pull2(l.All())
	defer end()
	if key, v, some := other(); key != "c" || v != 3 || !some {
		t.Errorf("the first of the other = %q, %d, %v", key, v, some)
	}
	l.Clear()
	if key, v, some := next(); key != "a" || v != 1 || !some {
		t.Errorf("the second = %q, %d, %v", key, v, some)
	}
	if key, v, some := other(); key != "b" || v != 2 || !some {
		t.Errorf("the second of the other = %q, %d, %v", key, v, some)
	}
	if _, _, some := next(); some {
		t.Error("there is a third")
	}
	if _, _, some := other(); some {
		t.Error("there is a third of the other")
	}
}

// step does one call to a list and to its model, and holds what they answer against each other.
func step[V comparable](t *testing.T, d *drawn, l *lru.List[V], m *model[V], value func(int) V) {
	t.Helper()
	key := strconv.Itoa(d.below(max(m.most, 0)*2 + 3))
	switch d.below(20) {
	case 0, 1, 2, 3, 4, 5, 6, 7:
		v := value(d.below(1000))
		out, some, e := l.Put(key, v)
		if o, s, f := m.put(key, v); out != o || some != s || e != f {
			t.Fatalf("Put of %s = %q, %v, %v; want %q, %v, %v", key, out, some, e, o, s, f)
		}
	case 8, 9, 10, 11:
		v, some := l.Get(key)
		if w, s := m.get(key); v != w || some != s {
			t.Fatalf("Get of %s = %v, %v; want %v, %v", key, v, some, w, s)
		}
	case 12, 13, 14:
		v, some := l.Look(key)
		if w, s := m.look(key); v != w || some != s {
			t.Fatalf("Look of %s = %v, %v; want %v, %v", key, v, some, w, s)
		}
	case 15, 16, 17, 18:
		if got, want := l.Drop(key), m.drop(key); got != want {
			t.Fatalf("Drop of %s = %v; want %v", key, got, want)
		}
	default:
		if d.below(8) == 0 {
			l.Clear()
			m.row = nil
		}
	}
}

func script[V comparable](t *testing.T, seed drawn, most int, value func(int) V) {
	t.Helper()
	l, m := lru.New[V](most), &model[V]{most: most}
	for range 1500 {
		step(t, &seed, l, m, value)
		check(t, l, m.row)
	}
}

// P15.1: rows of calls, held against the chapter's words, of lists of some sizes and of values of some types.
func TestScripts(t *testing.T) {
	type two struct {
		text string
		nums [2]int
	}
	for seed, most := range []int{-1, 0, 1, 2, 3, 4, 7, 12, 40} {
		script(t, drawn(seed), most, func(i int) int { return i })
		script(t, drawn(seed+100), most, strconv.Itoa)
		script(t, drawn(seed+200), most, func(i int) two { return two{strconv.Itoa(i), [2]int{i, -i}} })
		script(t, drawn(seed+300), most, func(i int) any { return []any{i, "a", nil, true, 1.5}[i%5] })
	}
}

// P15.2: of any keys that were put or got the last most ones are there, in that order.
func TestLastUsed(t *testing.T) {
	for most := 1; most <= 9; most++ {
		d := drawn(most)
		l := lru.New[int](most)
		var used []string // the last one first, each once
		for i := range 2000 {
			key := strconv.Itoa(d.below(most * 2))
			if d.below(3) == 0 {
				// A key that is not there can't be got.
				if _, some := l.Get(key); !some {
					continue
				}
			} else if _, _, e := l.Put(key, i); e != api.OK {
				t.Fatalf("Put of %s: %v", key, e)
			}
			used = slices.DeleteFunc(used, func(u string) bool { return u == key })
			used = slices.Insert(used, 0, key)
			if got, want := l.Keys(), used[:min(most, len(used))]; !slices.Equal(got, want) {
				t.Fatalf("Keys = %q; of a list of %d the last used are %q", got, most, want)
			}
		}
	}
}

// A list of each type of value: none of them need be compared.
func TestValues(t *testing.T) {
	ints := lru.New[int](2)
	put(t, ints, "a", -7)
	check(t, ints, []pair[int]{{"a", -7}})

	nothings := lru.New[struct{}](2)
	put(t, nothings, "a", struct{}{})
	check(t, nothings, []pair[struct{}]{{key: "a"}})

	seven := 7
	pointers := lru.New[*int](2)
	put(t, pointers, "a", &seven)
	put(t, pointers, "b", nil)
	check(t, pointers, []pair[*int]{{"b", nil}, {"a", &seven}})

	rows := lru.New[[]string](1)
	put(t, rows, "a", []string{"x", "y"})
	if v, some := rows.Get("a"); !some || !slices.Equal(v, []string{"x", "y"}) {
		t.Errorf("Get = %q, %v", v, some)
	}
	if v, some := rows.Look("b"); some || v != nil {
		t.Errorf("Look of what is not there = %q, %v", v, some)
	}
	maps := lru.New[map[string]int](1)
	put(t, maps, "a", map[string]int{"x": 3})
	if v, some := maps.Look("a"); !some || v["x"] != 3 {
		t.Errorf("Look = %v, %v", v, some)
	}
	if v, some := maps.Get("b"); some || v != nil {
		t.Errorf("Get of what is not there = %v, %v", v, some)
	}
	calls := lru.New[func() int](1)
	put(t, calls, "a", func() int { return 5 })
	if f, some := calls.Get("a"); !some || f() != 5 {
		t.Error("Get of a function")
	}
	if f, some := calls.Get("b"); some || f != nil {
		t.Error("Get of a function that is not there")
	}
	kept := lru.New[api.Kept](1)
	put(t, kept, "a", api.Kept{Rcode: 3, At: 5})
	if v, some := kept.Get("a"); !some || v.Rcode != 3 || v.At != 5 {
		t.Errorf("Get = %v, %v", v, some)
	}
	errors := lru.New[error](1)
	put(t, errors, "a", nil)
	check(t, errors, []pair[error]{{"a", nil}})

	// A list of lists: each is as it was made.
	lists := lru.New[*lru.List[int]](2)
	put(t, lists, "a", filled(t, 2, "x"))
	inner, some := lists.Get("a")
	if !some {
		t.Fatal("Get of a list")
	}
	check(t, inner, []pair[int]{{"x", 1}})
}

// Two lists are each on its own.
func TestTwoLists(t *testing.T) {
	l, k := filled(t, 2, "a", "b"), filled(t, 2, "b", "c")
	l.Get("a")
	k.Drop("b")
	check(t, l, []pair[int]{{"a", 1}, {"b", 2}})
	check(t, k, []pair[int]{{"c", 2}})
	l.Clear()
	check(t, l, nil)
	check(t, k, []pair[int]{{"c", 2}})
}

// Rule 7: a list that nobody made tells nothing, and Put answers ErrNil, whatever it is told.
func TestOfNobody(t *testing.T) {
	none := lru.New[int](0)
	two := filled(t, 2, "a", "b")
	copied, copiedNone := *two, *none
	spoilt := filled(t, 2, "a")
	*spoilt = lru.List[int]{}
	other := filled(t, 2, "a")
	*other = *two
	var missing *lru.List[int]
	for name, l := range map[string]*lru.List[int]{
		"nil": nil, "a nil variable": missing, "zero": {}, "new": new(lru.List[int]), "copied": &copied, "copied of 0": &copiedNone, "made zero": spoilt, "made another": other,
	} {
		for range 2 {
			for _, key := range []string{"", "a", "b", "c"} {
				if v, some := l.Get(key); v != 0 || some {
					t.Errorf("%s: Get of %q = %d, %v", name, key, v, some)
				}
				if v, some := l.Look(key); v != 0 || some {
					t.Errorf("%s: Look of %q = %d, %v", name, key, v, some)
				}
				if out, some, e := l.Put(key, 7); out != "" || some || e != api.ErrNil {
					t.Errorf("%s: Put of %q = %q, %v, %v; want ErrNil", name, key, out, some, e)
				}
				if l.Drop(key) {
					t.Errorf("%s: Drop of %q: it was there", name, key)
				}
			}
			if l.Len() != 0 || len(l.Keys()) != 0 || l.All() == nil || len(pairs(l.All())) != 0 {
				t.Errorf("%s: Len = %d, Keys = %q", name, l.Len(), l.Keys())
			}
			l.Clear()
		}
	}
	// What was told to the copies has not come to the list.
	check(t, two, []pair[int]{{"b", 2}, {"a", 1}})
	check(t, none, nil)
	two.Clear()
	if copied.Len() != 0 || len(pairs(copied.All())) != 0 {
		t.Error("a copy tells something behind Clear of the list")
	}
}

// Rule 7: an All of a list of which a copy was laid over it begins with nothing.
func TestAllOfNobody(t *testing.T) {
	l := filled(t, 2, "a")
	all := l.All()
	*l = lru.List[int]{}
	if got := pairs(all); len(got) != 0 {
		t.Errorf("All = %v of what is a list no more", got)
	}
}

// Rule 3: a key is kept as it was when it was handed in, whatever its memory has later.
func TestHandedIn(t *testing.T) {
	l := lru.New[int](2)
	memory := []byte("ab")
	put(t, l, unsafe.String(&memory[0], 1), 1)
	put(t, l, unsafe.String(&memory[0], 2), 2)
	put(t, l, unsafe.String(&memory[0], 1), 3)
	if string(memory) != "ab" {
		t.Errorf("Put left %q", memory)
	}
	copy(memory, "xy")
	check(t, l, []pair[int]{{"a", 3}, {"ab", 2}})
	if out, some, e := l.Put("c", 4); out != "ab" || !some || e != api.OK {
		t.Errorf("Put = %q, %v, %v", out, some, e)
	}
	if !l.Drop("a") {
		t.Error("Drop of a: it was not there")
	}
}

// Rule 3: Keys are new memory each time.
func TestNewMemory(t *testing.T) {
	l := filled(t, 3, "a", "b", "c")
	first, second := l.Keys(), l.Keys()
	first[0] = "x"
	first = append(first[:2], "y")
	_ = append(first, "z")
	if !slices.Equal(second, []string{"c", "b", "a"}) {
		t.Errorf("Keys = %q behind a change of what was answered ahead", second)
	}
	check(t, l, []pair[int]{{"c", 3}, {"b", 2}, {"a", 1}})
}

// T6: what a call answers hangs on its arguments and on the calls ahead alone: two lists that are told the same tell the same.
func TestSameAgain(t *testing.T) {
	tell := func() string {
		d := drawn(11)
		l := lru.New[int](6)
		var told strings.Builder
		for range 600 {
			key := strconv.Itoa(d.below(14))
			switch d.below(4) {
			case 0, 1:
				fmt.Fprintln(&told, fmt.Sprint(l.Put(key, d.below(100))))
			case 2:
				fmt.Fprintln(&told, fmt.Sprint(l.Get(key)))
			default:
				fmt.Fprintln(&told, l.Drop(key))
			}
			fmt.Fprintln(&told, l.Keys(), pairs(l.All()))
		}
		return told.String()
	}
	if first := tell(); first != tell() {
		t.Error("the same calls were told something else")
	}
}

// Lists of many keys end soon: no call but those that tell all goes through them.
func TestMany(t *testing.T) {
	const most, count = 100_000, 500_000
	l := lru.New[int](most)
	for i := range count {
		out, some, e := l.Put(strconv.Itoa(i), i)
		if e != api.OK || some != (i >= most) || some && out != strconv.Itoa(i-most) {
			t.Fatalf("Put of %d = %q, %v, %v", i, out, some, e)
		}
		first := max(0, i-most+1)
		if v, some := l.Look(strconv.Itoa(first)); v != first || !some {
			t.Fatalf("Look of %d = %d, %v", first, v, some)
		}
	}
	for i := count - most; i < count; i++ {
		if v, some := l.Get(strconv.Itoa(i)); v != i || !some {
			t.Fatalf("Get of %d = %d, %v", i, v, some)
		}
	}
	if l.Len() != most || len(l.Keys()) != most {
		t.Fatalf("Len = %d", l.Len())
	}
	at := count
	for key, v := range l.All() {
		at--
		if v != at || key != strconv.Itoa(at) {
			t.Fatalf("All tells %q, %d; want %d", key, v, at)
		}
	}
	for i := count - most; i < count; i++ {
		if !l.Drop(strconv.Itoa(i)) {
			t.Fatalf("Drop of %d: it was not there", i)
		}
	}
	check(t, l, nil)
}
