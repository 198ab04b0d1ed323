package vips_test

import (
	"math"
	"slices"
	"strconv"
	"strings"
	"testing"

	"nameplate/addr"
	"nameplate/api"
	"nameplate/hash"
	"nameplate/name"
	"nameplate/ranges"
	"nameplate/vips"
)

// drawn is a row of numbers that look as by chance, and are the same each time.
type drawn uint64

func (d *drawn) next() uint64 {
	*d = *d*6364136223846793005 + 1442695040888963407
	return uint64(*d) ^ uint64(*d)>>29
}

// below is a number from 0 to below n.
func (d *drawn) below(n int) int { return int(d.next() >> 11 % uint64(n)) }

// wire is the name of labels, put together without a look at whether they may be.
func wire(labels ...string) api.Name {
	var row []byte
	for _, l := range labels {
		row = append(append(row, byte(len(l))), l...)
	}
	return api.Name(row)
}

// at is the address whose text s is.
func at(s string) api.Addr {
	a, e := addr.Read(s)
	if e != api.OK {
		panic(s)
	}
	return a
}

// in is the range whose text s is.
func in(s string) api.Range {
	r, e := ranges.Read(s)
	if e != api.OK {
		panic(s)
	}
	return r
}

// pool is a pool of the ranges whose texts are handed in: the first is the range, the others are reserved.
func pool(r string, reserved ...string) api.Pool {
	p := api.Pool{Range: in(r)}
	for _, s := range reserved {
		p.Reserved = append(p.Reserved, in(s))
	}
	return p
}

func made(t *testing.T, p api.Pool) *vips.Pool {
	t.Helper()
	made, e := vips.New(p)
	if e != api.OK || made == nil {
		t.Fatalf("New of %v: %v", p, e)
	}
	return made
}

// given is a pool that gave each of the hosts an address.
func given(t *testing.T, p api.Pool, hosts ...api.Name) *vips.Pool {
	t.Helper()
	made := made(t, p)
	for _, h := range hosts {
		if _, e := made.Give(h); e != api.OK {
			t.Fatalf("Give of %q: %v", h, e)
		}
	}
	return made
}

// badRanges are ranges that may not be.
func badRanges() []api.Range {
	return []api.Range{
		{Base: at("10.0.0.1"), Bits: 30},
		{Base: at("10.0.0.0"), Bits: 33},
		{Base: at("10.0.0.0"), Bits: -1},
		{Base: at("10.0.0.0"), Bits: 128},
		{Base: at("10.0.0.0"), Bits: 6},
		{Base: at("::1"), Bits: 127},
		{Base: at("::"), Bits: 129},
		{Base: at("::"), Bits: -1},
		{Base: at("8000::"), Bits: 0},
		{Base: api.Addr{Hi: 1}, Bits: 0},
		{Base: api.Addr{Lo: 1 << 32}, Bits: 0},
		{Base: at("::"), Bits: math.MaxInt},
		{Base: at("0.0.0.0"), Bits: math.MinInt},
	}
}

// noHosts are names that are no hosts.
func noHosts() []api.Name {
	full := strings.Repeat("m", 63)
	return []api.Name{
		"", "\x00", "\x01", "a", "\x02a", "\x01a\x00", "\x01a\x01", "\xc0\x00",
		"\x40" + api.Name(strings.Repeat("a", 64)),
		wire(full, full, full, strings.Repeat("m", 62)), // 255 octets
		wire(slices.Repeat([]string{"a"}, 128)...),
	}
}

// oddHosts are hosts, though some look otherwise.
func oddHosts() []api.Name {
	full := strings.Repeat("M", 63)
	return []api.Name{
		wire("a"), wire("*"), wire("*", "A"), wire("\x00"), wire("."), wire("\xff"), wire("a.b"), wire("\x01a"), wire(" "), wire("-"),
		wire(full), wire(full, full, full, strings.Repeat("M", 61)), wire(slices.Repeat([]string{"Z"}, 127)...),
	}
}

// state is all that a pool tells.
type state struct {
	held []api.Held
	free int
}

func stateOf(p *vips.Pool) state { return state{p.All(), p.Free()} }

func (s state) same(other state) bool {
	return slices.Equal(s.held, other.held) && s.free == other.free
}

// model is a pool by the chapter's words: a row of what is held, in no order, gone through each time.
type model struct {
	pool api.Pool
	held []api.Held
}

// lower is a name with small letters; its length octets are below the letters.
func lower(n api.Name) string {
	row := []byte(n)
	for i, c := range row {
		if 'A' <= c && c <= 'Z' {
			row[i] = c + 'a' - 'A'
		}
	}
	return string(row)
}

func (m *model) holds(host api.Name) int {
	return slices.IndexFunc(m.held, func(h api.Held) bool { return lower(h.Host) == lower(host) })
}

// isFree tells whether the address at a place is free.
func (m *model) isFree(place int) (api.Addr, bool) {
	a, some := ranges.At(m.pool.Range, place)
	for _, r := range m.pool.Reserved {
		some = some && !ranges.Has(r, a)
	}
	for _, h := range m.held {
		some = some && h.Addr != a
	}
	return a, some
}

func (m *model) free() int {
	n := 0
	for place := range ranges.Size(m.pool.Range) {
		if _, some := m.isFree(place); some {
			n++
		}
	}
	return n
}

func isHost(n api.Name) bool { return n != "" && name.Check(n) == api.OK }

func (m *model) give(host api.Name) (api.Addr, api.Errno) {
	if !isHost(host) {
		return api.Addr{}, api.ErrArg
	}
	if i := m.holds(host); i >= 0 {
		return m.held[i].Addr, api.OK
	}
	size := ranges.Size(m.pool.Range)
	first := int(hash.Sum(lower(host)) % uint64(size))
	for step := range size {
		if a, some := m.isFree((first + step) % size); some {
			m.held = append(m.held, api.Held{Host: host, Addr: a})
			return a, api.OK
		}
	}
	return api.Addr{}, api.ErrFull
}

func (m *model) drop(host api.Name) api.Errno {
	if !isHost(host) {
		return api.ErrArg
	}
	i := m.holds(host)
	if i < 0 {
		return api.ErrNone
	}
	m.held = slices.Delete(m.held, i, i+1)
	return api.OK
}

func (m *model) keep(hosts []api.Name) ([]api.Name, api.Errno) {
	for _, h := range hosts {
		if !isHost(h) {
			return nil, api.ErrArg
		}
	}
	m.held = slices.DeleteFunc(m.held, func(h api.Held) bool {
		return !slices.ContainsFunc(hosts, func(n api.Name) bool { return lower(n) == lower(h.Host) })
	})
	var lost []api.Name
	for _, h := range hosts {
		if _, e := m.give(h); e == api.OK {
			continue
		}
		if !slices.ContainsFunc(lost, func(n api.Name) bool { return lower(n) == lower(h) }) {
			lost = append(lost, h)
		}
	}
	return lost, api.OK
}

func (m *model) clone() *model { return &model{pool: m.pool, held: slices.Clone(m.held)} }

func (m *model) all() []api.Held {
	row := slices.Clone(m.held)
	slices.SortFunc(row, func(a, b api.Held) int { return addr.Compare(a.Addr, b.Addr) })
	return row
}

// check holds all that a pool tells against its model, and against what P14.3 says of any pool.
func check(t *testing.T, p *vips.Pool, m *model, names []api.Name) {
	t.Helper()
	all := p.All()
	if want := m.all(); !slices.Equal(all, want) {
		t.Fatalf("All = %v; want %v", all, want)
	}
	if free := p.Free(); free != m.free() || free != ranges.Free(m.pool.Range, m.pool.Reserved)-len(all) {
		t.Fatalf("Free = %d; want %d", free, m.free())
	}
	for _, n := range names {
		a, some := p.Of(n)
		if i := m.holds(n); some != (i >= 0) || some && a != m.held[i].Addr || !some && a != (api.Addr{}) {
			t.Fatalf("Of %q = %v, %t; held are %v", n, a, some, m.held)
		}
	}
	for place := range min(ranges.Size(m.pool.Range), 64) {
		a, _ := ranges.At(m.pool.Range, place)
		host, some := p.Host(a)
		i := slices.IndexFunc(m.held, func(h api.Held) bool { return h.Addr == a })
		if some != (i >= 0) || some && host != m.held[i].Host || !some && host != "" {
			t.Fatalf("Host of %v = %q, %t; held are %v", a, host, some, m.held)
		}
	}
	checkHeld(t, m.pool, all)
}

// P14.3: no two hosts have one address; each address is in the range, and in none of Reserved; they rise (P14.2).
func checkHeld(t *testing.T, pool api.Pool, all []api.Held) {
	t.Helper()
	hosts := map[string]bool{}
	for i, h := range all {
		if i > 0 && addr.Compare(all[i-1].Addr, h.Addr) >= 0 {
			t.Fatalf("%v isn't behind %v", h, all[i-1])
		}
		if hosts[lower(h.Host)] {
			t.Fatalf("%q has two addresses", h.Host)
		}
		hosts[lower(h.Host)] = true
		if _, some := ranges.Index(pool.Range, h.Addr); !some {
			t.Fatalf("%v has no place in %v", h, pool.Range)
		}
		for _, r := range pool.Reserved {
			if ranges.Has(r, h.Addr) {
				t.Fatalf("%v is reserved by %v", h, r)
			}
		}
	}
}

// pools are such as may be: of both kinds, of few places and of many, with nothing reserved and with much.
func pools() []api.Pool {
	return []api.Pool{
		pool("10.0.0.0/32"),
		pool("10.0.0.0/31"),
		pool("10.0.0.0/30", "10.0.0.0/32"),
		pool("10.0.0.0/30", "10.0.0.3/32", "10.0.0.0/32", "10.0.0.3/32"),
		pool("10.0.0.0/29", "10.0.0.4/31", "10.0.0.4/32", "10.0.0.7/32", "::/0", "10.0.0.8/29", "9.255.255.248/29"),
		pool("10.0.0.0/29", "10.0.0.2/31", "10.0.0.0/30"),
		pool("10.0.0.8/29", "10.0.0.0/29", "10.0.0.16/28"),
		pool("10.0.0.0/29", "10.0.0.0/29"),
		pool("10.0.0.0/29", "10.0.0.0/28"),
		pool("10.0.0.8/29", "10.0.0.0/8"),
		pool("10.0.0.8/29", "0.0.0.0/0"),
		pool("255.255.255.248/29", "255.255.255.255/32"),
		pool("0.0.0.0/29", "0.0.0.0/32"),
		pool("2001:db8::/125", "2001:db8::4/126", "2001:db8::1/128", "0.0.0.0/0"),
		pool("::/127"),
		pool("ffff:ffff:ffff:ffff:ffff:ffff:ffff:fffc/126", "ffff:ffff:ffff:ffff:ffff:ffff:ffff:ffff/128"),
		pool("2001:db8::/124"),
		pool("2001:db8::8000:0:0:0/125", "2001:db8::8000:0:0:7/128", "2001:db8::7/128"),
	}
}

// scriptNames are hosts, some the same folded, and names that are no hosts.
func scriptNames() []api.Name {
	return []api.Name{
		wire("a"), wire("A"), wire("b"), wire("B"), wire("www", "a"), wire("WWW", "a"), wire("www", "A"), wire("c"), wire("d"), wire("e"), wire("*", "a"), wire("\x00"), wire("[", "x"), wire("{", "X"),
		"", "\x00", "\x02a", wire("f"), wire("g"), wire("h"), wire("i"), wire("j"), wire("k"), wire("l"),
	}
}

func TestExamples(t *testing.T) {
	p := made(t, pool("10.0.0.0/31"))
	a, e := p.Give(wire("a"))
	b, f := p.Give(wire("b"))
	if e != api.OK || f != api.OK || a == b || !slices.Contains([]api.Addr{at("10.0.0.0"), at("10.0.0.1")}, a) || !slices.Contains([]api.Addr{at("10.0.0.0"), at("10.0.0.1")}, b) {
		t.Fatalf("Give of a and b: %v, %v; %v, %v", a, e, b, f)
	}
	if c, e := p.Give(wire("c")); e != api.ErrFull || c != (api.Addr{}) {
		t.Errorf("Give of c: %v, %v", c, e)
	}
	if e := p.Drop(wire("a")); e != api.OK {
		t.Errorf("Drop of a: %v", e)
	}
	if c, e := p.Give(wire("c")); e != api.OK || c != a {
		t.Errorf("Give of c: %v, %v; a had %v", c, e, a)
	}
}

// P14.1, Check and New: a range that may not be, or one of those reserved, wherever it stands.
func TestCheck(t *testing.T) {
	for _, p := range pools() {
		if e := vips.Check(p); e != api.OK {
			t.Errorf("Check of %v: %v", p, e)
		}
	}
	refused := func(p api.Pool) {
		t.Helper()
		if e := vips.Check(p); e != api.ErrArg {
			t.Errorf("Check of %v: %v", p, e)
		}
		if made, e := vips.New(p); e != api.ErrArg || made != nil {
			t.Errorf("New of %v: %v, %v", p, made, e)
		}
	}
	for _, bad := range badRanges() {
		refused(api.Pool{Range: bad})
		refused(api.Pool{Range: bad, Reserved: []api.Range{in("10.0.0.0/32")}})
		refused(api.Pool{Range: bad, Reserved: []api.Range{bad}})
		row := []api.Range{in("10.0.0.0/32"), in("::/0"), in("10.0.0.0/29"), in("0.0.0.0/0")}
		for i := range len(row) + 1 {
			refused(api.Pool{Range: in("10.0.0.0/29"), Reserved: slices.Insert(slices.Clone(row), i, bad)})
			refused(api.Pool{Range: in("::/0"), Reserved: slices.Insert(slices.Clone(row), i, bad)})
		}
	}
	for _, p := range []api.Pool{{}, {Range: in("::/0")}, {Range: in("0.0.0.0/0"), Reserved: []api.Range{}}, pool("255.255.255.255/32"), pool("::/128", "::/128")} {
		if e := vips.Check(p); e != api.OK {
			t.Errorf("Check of %v: %v", p, e)
		}
	}
}

// P14.1, New: a pool that has given nothing.
func TestNew(t *testing.T) {
	for _, p := range pools() {
		made := made(t, p)
		check(t, made, &model{pool: p}, scriptNames())
		if all := made.All(); len(all) != 0 {
			t.Errorf("New of %v holds %v", p, all)
		}
	}
}

// P14.1, Give: the first free place by hash.Probe, round once, whatever is free.
func TestGiveFirstFree(t *testing.T) {
	for _, p := range pools() {
		size := ranges.Size(p.Range)
		for k := range 40 {
			host := wire("h" + strconv.Itoa(k))
			m, made := &model{pool: p}, made(t, p)
			for len(m.held) < size { // one after the other of other hosts takes what this one would have had
				want, e := m.clone().give(host)
				got, f := made.Clone().Give(host)
				if got != want || e != f {
					t.Fatalf("Give of %q beside %v in %v = %v, %v; want %v, %v", host, m.held, p, got, f, want, e)
				}
				other := wire("o" + strconv.Itoa(len(m.held)*41+k))
				a, e := m.give(other)
				b, f := made.Give(other)
				if a != b || e != f {
					t.Fatalf("Give of %q beside %v in %v = %v, %v; want %v, %v", other, m.held, p, b, f, a, e)
				}
				if e != api.OK {
					break
				}
			}
			check(t, made, m, []api.Name{host})
		}
	}
}

// likes is some hosts that all begin to look at one place of size.
func likes(count, slot, size int) []api.Name {
	var row []api.Name
	for k := 0; len(row) < count; k++ {
		if n := wire("k" + strconv.Itoa(k)); hash.Slot(n, size) == slot {
			row = append(row, n)
		}
	}
	return row
}

// P14.1, Give: from each place on, up, round once, by the numbers themselves, so that a fault that the model shares is told.
func TestGiveFromEachPlace(t *testing.T) {
	addrOf := func(place int) api.Addr { return api.Addr{Lo: at("10.0.0.0").Lo + uint64(place%4)} }
	for slot := range 4 {
		p := made(t, pool("10.0.0.0/30"))
		q := made(t, api.Pool{Range: in("10.0.0.0/30"), Reserved: []api.Range{{Base: addrOf(slot), Bits: 32}}})
		for i, n := range likes(4, slot, 4) {
			if a, e := p.Give(n); e != api.OK || a != addrOf(slot+i) {
				t.Errorf("slot %d: Give number %d = %v, %v", slot, i, a, e)
			}
			a, e := q.Give(n)
			if i < 3 && (e != api.OK || a != addrOf(slot+1+i)) || i == 3 && e != api.ErrFull {
				t.Errorf("slot %d, reserved: Give number %d = %v, %v", slot, i, a, e)
			}
		}
	}
}

// P14.1, Give: of no host ErrArg, in a full pool too, and nothing is given.
func TestGiveNoHost(t *testing.T) {
	free, full := made(t, pool("10.0.0.0/24")), given(t, pool("10.0.0.0/32"), wire("a"))
	for _, n := range noHosts() {
		for _, p := range []*vips.Pool{free, full, made(t, pool("10.0.0.0/24", "10.0.0.0/8"))} {
			before := stateOf(p)
			if a, e := p.Give(n); e != api.ErrArg || a != (api.Addr{}) {
				t.Errorf("Give of %.40q = %v, %v", n, a, e)
			}
			if e := p.Drop(n); e != api.ErrArg {
				t.Errorf("Drop of %.40q = %v", n, e)
			}
			if a, some := p.Of(n); some || a != (api.Addr{}) {
				t.Errorf("Of %.40q = %v, %t", n, a, some)
			}
			if !before.same(stateOf(p)) {
				t.Errorf("%.40q has the pool hold %v", n, p.All())
			}
		}
	}
	for _, n := range oddHosts() {
		a, e := free.Give(n)
		if b, some := free.Of(n); e != api.OK || !some || a != b {
			t.Errorf("Give of %.40q = %v, %v; Of = %v, %t", n, a, e, b, some)
		}
	}
	if free.Free() != 256-len(oddHosts()) {
		t.Errorf("Free = %d", free.Free())
	}
}

// P14.1, Give: a host that has its address, given again, in other letters too, in a full pool too; Host tells it as it was told when it was given.
func TestGiveAgain(t *testing.T) {
	p := made(t, pool("10.0.0.0/31"))
	a, _ := p.Give(wire("WwW", "a"))
	b, _ := p.Give(wire("b"))
	before := stateOf(p)
	for _, n := range []api.Name{wire("WwW", "a"), wire("www", "a"), wire("WWW", "A"), wire("wWw", "A")} {
		if got, e := p.Give(n); e != api.OK || got != a {
			t.Errorf("Give of %q = %v, %v; want %v", n, got, e, a)
		}
		if got, some := p.Of(n); !some || got != a {
			t.Errorf("Of %q = %v, %t; want %v", n, got, some, a)
		}
		if lost, e := p.Keep([]api.Name{n, wire("B")}); e != api.OK || len(lost) != 0 {
			t.Errorf("Keep of %q, B = %q, %v", n, lost, e)
		}
		if host, some := p.Host(a); !some || host != wire("WwW", "a") {
			t.Errorf("Host = %q, %t", host, some)
		}
		if host, some := p.Host(b); !some || host != wire("b") {
			t.Errorf("Host = %q, %t", host, some)
		}
	}
	if !before.same(stateOf(p)) {
		t.Errorf("All = %v", p.All())
	}
	// Octets beside the letters stay apart.
	q := made(t, pool("10.0.0.0/24"))
	for c := range 256 {
		if _, e := q.Give(wire(string([]byte{byte(c)}))); e != api.OK {
			t.Fatal(c, e)
		}
	}
	if q.Free() != 26 || len(q.All()) != 230 {
		t.Errorf("Free = %d beside %d that are held", q.Free(), len(q.All()))
	}
	for c := range 256 {
		n := wire(string([]byte{byte(c)}))
		a, some := q.Of(n)
		want := n
		if 'a' <= c && c <= 'z' {
			want = wire(string([]byte{byte(c) - 32})) // the large letter came first
		}
		if host, is := q.Host(a); !some || !is || host != want {
			t.Errorf("Host of %q's = %q, %t", n, host, is)
		}
	}
}

// P14.1, Give: ErrFull, where nothing is free; what is held stays.
func TestGiveFull(t *testing.T) {
	for _, p := range pools() {
		m, q := &model{pool: p}, made(t, p)
		room := ranges.Free(p.Range, p.Reserved)
		for k := range room {
			if a, e := q.Give(wire("h" + strconv.Itoa(k))); e != api.OK {
				t.Fatalf("Give of host %d of %d in %v = %v, %v", k, room, p, a, e)
			}
			m.give(wire("h" + strconv.Itoa(k)))
		}
		for _, n := range oddHosts() {
			if a, e := q.Give(n); e != api.ErrFull || a != (api.Addr{}) {
				t.Errorf("Give of %q in a full pool = %v, %v", n, a, e)
			}
		}
		if q.Free() != 0 {
			t.Errorf("Free = %d", q.Free())
		}
		check(t, q, m, oddHosts())
	}
}

// P14.1, Drop: of one that has none, of one that has; its address is free.
func TestDrop(t *testing.T) {
	p := made(t, pool("10.0.0.0/30"))
	for _, n := range oddHosts() {
		if e := p.Drop(n); e != api.ErrNone {
			t.Errorf("Drop of %.40q = %v", n, e)
		}
	}
	a, _ := p.Give(wire("a"))
	b, _ := p.Give(wire("b"))
	if e := p.Drop(wire("c")); e != api.ErrNone || p.Free() != 2 {
		t.Errorf("Drop of c = %v, Free %d", e, p.Free())
	}
	if e := p.Drop(wire("A")); e != api.OK || p.Free() != 3 {
		t.Errorf("Drop of A = %v, Free %d", e, p.Free())
	}
	if got, some := p.Of(wire("a")); some || got != (api.Addr{}) {
		t.Errorf("Of a = %v, %t", got, some)
	}
	if host, some := p.Host(a); some || host != "" {
		t.Errorf("Host = %q, %t", host, some)
	}
	if e := p.Drop(wire("a")); e != api.ErrNone {
		t.Errorf("Drop of a again = %v", e)
	}
	if all := p.All(); !slices.Equal(all, []api.Held{{Host: wire("b"), Addr: b}}) {
		t.Errorf("All = %v", all)
	}
	if again, e := p.Give(wire("A")); e != api.OK || again != a {
		t.Errorf("Give of A = %v, %v; a had %v", again, e, a)
	}
	if host, _ := p.Host(a); host != wire("A") {
		t.Errorf("Host = %q: it was told as A when it was given", host)
	}
}

// P14.1, Give: an address that was dropped is free for who comes to it, and the only free one is found from each place on.
func TestGiveDropped(t *testing.T) {
	const size = 16
	p := made(t, pool("10.0.0.16/28"))
	for k := range size {
		p.Give(wire("h" + strconv.Itoa(k)))
	}
	for _, h := range p.All() {
		if e := p.Drop(h.Host); e != api.OK {
			t.Fatal(e)
		}
		for k := range 100 {
			n := wire("n" + strconv.Itoa(k))
			if a, e := p.Give(n); e != api.OK || a != h.Addr {
				t.Fatalf("Give of %q = %v, %v; free is %v", n, a, e, h.Addr)
			}
			if a, e := p.Give(wire("x")); e != api.ErrFull {
				t.Fatalf("Give of x = %v, %v", a, e)
			}
			if e := p.Drop(n); e != api.OK {
				t.Fatal(e)
			}
		}
		if a, e := p.Give(h.Host); e != api.OK || a != h.Addr {
			t.Fatalf("Give of %q = %v, %v; free is %v", h.Host, a, e, h.Addr)
		}
	}
}

// P14.1, Keep: where one is no host, wherever it stands, nothing is done.
func TestKeepNoHost(t *testing.T) {
	for _, bad := range noHosts() {
		for i := range 4 {
			p := given(t, pool("10.0.0.0/30"), wire("a"), wire("b"))
			before := stateOf(p)
			row := slices.Insert([]api.Name{wire("b"), wire("c"), wire("d")}, i, bad)
			if lost, e := p.Keep(row); e != api.ErrArg || len(lost) != 0 {
				t.Errorf("Keep of %.80q = %q, %v", row, lost, e)
			}
			if !before.same(stateOf(p)) {
				t.Errorf("Keep of %.80q has the pool hold %v", row, p.All())
			}
		}
		p := given(t, pool("10.0.0.0/31"), wire("a"), wire("b"))
		before := stateOf(p)
		if lost, e := p.Keep([]api.Name{bad}); e != api.ErrArg || len(lost) != 0 || !before.same(stateOf(p)) {
			t.Errorf("Keep of %.40q = %q, %v; All = %v", bad, lost, e, p.All())
		}
		if lost, e := p.Keep([]api.Name{wire("c"), wire("d"), wire("e"), bad}); e != api.ErrArg || len(lost) != 0 || !before.same(stateOf(p)) {
			t.Errorf("Keep of c, d, e, %.40q = %q, %v; All = %v", bad, lost, e, p.All())
		}
	}
}

// P14.1, Keep: who isn't among them is dropped ahead of all giving; who is keeps its address; the others are given in order.
func TestKeep(t *testing.T) {
	p := given(t, pool("10.0.0.0/30"), wire("a"), wire("b"), wire("c"), wire("d"))
	was := map[api.Name]api.Addr{}
	for _, h := range p.All() {
		was[h.Host] = h.Addr
	}
	if lost, e := p.Keep([]api.Name{wire("x"), wire("B"), wire("y"), wire("d"), wire("Z"), wire("v"), wire("z"), wire("X")}); e != api.OK || !slices.Equal(lost, []api.Name{wire("Z"), wire("v")}) {
		t.Errorf("Keep = %q, %v", lost, e)
	}
	for n, kept := range map[api.Name]api.Name{wire("b"): wire("b"), wire("d"): wire("d")} {
		if a, some := p.Of(n); !some || a != was[kept] {
			t.Errorf("Of %q = %v, %t; it had %v", n, a, some, was[kept])
		}
		if host, _ := p.Host(was[kept]); host != kept {
			t.Errorf("Host = %q; it was given as %q", host, kept)
		}
	}
	for _, n := range []api.Name{wire("a"), wire("c"), wire("z"), wire("v")} {
		if a, some := p.Of(n); some {
			t.Errorf("Of %q = %v", n, a)
		}
	}
	for _, n := range []api.Name{wire("x"), wire("y")} {
		a, some := p.Of(n)
		if host, _ := p.Host(a); !some || host != n || a != was[wire("a")] && a != was[wire("c")] {
			t.Errorf("Of %q = %v, %t", n, a, some)
		}
	}
	if lost, e := p.Keep(nil); e != api.OK || len(lost) != 0 || p.Free() != 4 || len(p.All()) != 0 {
		t.Errorf("Keep of none = %q, %v; All = %v", lost, e, p.All())
	}
	p.Give(wire("a"))
	if lost, e := p.Keep([]api.Name{}); e != api.OK || len(lost) != 0 || p.Free() != 4 {
		t.Errorf("Keep of none = %q, %v; All = %v", lost, e, p.All())
	}
}

// P14.1, Keep: lost are told once each, as they came first, in order; the order of the row tells who is.
func TestKeepLost(t *testing.T) {
	p := made(t, pool("10.0.0.0/30", "10.0.0.0/32", "10.0.0.3/32"))
	row := []api.Name{wire("b"), wire("a"), wire("D"), wire("B"), wire("C"), wire("d"), wire("c"), wire("A"), wire("D"), wire("e"), wire("*")}
	for range 3 {
		lost, e := p.Keep(row)
		if e != api.OK || !slices.Equal(lost, []api.Name{wire("D"), wire("C"), wire("e"), wire("*")}) {
			t.Errorf("Keep = %q, %v", lost, e)
		}
	}
	// They who have an address keep it, though they stand last.
	lost, e := p.Keep([]api.Name{wire("x"), wire("y"), wire("A"), wire("z"), wire("X"), wire("b")})
	if e != api.OK || !slices.Equal(lost, []api.Name{wire("x"), wire("y"), wire("z")}) {
		t.Errorf("Keep = %q, %v", lost, e)
	}
	shut := made(t, pool("10.0.0.0/30", "10.0.0.0/30"))
	if lost, e := shut.Keep(row); e != api.OK || !slices.Equal(lost, []api.Name{wire("b"), wire("a"), wire("D"), wire("C"), wire("e"), wire("*")}) {
		t.Errorf("Keep = %q, %v", lost, e)
	}
	if lost, e := shut.Keep(nil); e != api.OK || len(lost) != 0 {
		t.Errorf("Keep of none = %q, %v", lost, e)
	}
}

// P14.1, Keep: it gives in the row's order, so the first that comes to a place has it.
func TestKeepInOrder(t *testing.T) {
	like := likes(3, 6, 8)
	for _, order := range [][]int{{0, 1, 2}, {0, 2, 1}, {1, 0, 2}, {1, 2, 0}, {2, 0, 1}, {2, 1, 0}} {
		p := made(t, pool("10.0.0.0/29"))
		if lost, e := p.Keep([]api.Name{like[order[0]], like[order[1]], like[order[0]], like[order[2]]}); e != api.OK || len(lost) != 0 {
			t.Fatalf("Keep = %q, %v", lost, e)
		}
		want := []api.Held{{Host: like[order[2]], Addr: at("10.0.0.0")}, {Host: like[order[0]], Addr: at("10.0.0.6")}, {Host: like[order[1]], Addr: at("10.0.0.7")}}
		if all := p.All(); !slices.Equal(all, want) {
			t.Errorf("All = %v; want %v", all, want)
		}
	}
}

// P14.1, P14.2, P14.3: rows of calls by chance, all that the pool tells held against the model behind each; clones go on beside it.
func TestScripts(t *testing.T) {
	d := drawn(14)
	names := scriptNames()
	for _, pool := range pools() {
		for range 12 {
			p, m := made(t, pool), &model{pool: pool}
			for range 40 {
				step(t, &d, p, m, names)
				check(t, p, m, names)
				if d.below(8) == 0 {
					checkClone(t, &d, p, m, names)
				}
			}
		}
	}
}

// step has a pool and its model do the same.
func step(t *testing.T, d *drawn, p *vips.Pool, m *model, names []api.Name) {
	t.Helper()
	n := names[d.below(len(names))]
	switch d.below(5) {
	case 0, 1:
		a, e := p.Give(n)
		if b, f := m.give(n); a != b || e != f {
			t.Fatalf("Give of %q = %v, %v; want %v, %v", n, a, e, b, f)
		}
	case 2, 3:
		if e, f := p.Drop(n), m.drop(n); e != f {
			t.Fatalf("Drop of %q = %v; want %v", n, e, f)
		}
	default:
		row := make([]api.Name, d.below(12))
		for i := range row {
			row[i] = names[d.below(len(names))]
			if d.below(4) > 0 && !isHost(row[i]) {
				row[i] = names[0]
			}
		}
		before, was := slices.Clone(row), p.All()
		lost, e := p.Keep(row)
		if want, f := m.keep(row); e != f || !slices.Equal(lost, want) {
			t.Fatalf("Keep of %q = %q, %v; want %q, %v", row, lost, e, want, f)
		}
		if !slices.Equal(row, before) {
			t.Fatalf("Keep of %q left %q", before, row)
		}
		checkKept(t, p, m, row, lost, was, e)
	}
}

// P14.3: who has an address keeps it till it is dropped; of no more hosts than ranges.Free none is lost.
func checkKept(t *testing.T, p *vips.Pool, m *model, row, lost []api.Name, was []api.Held, e api.Errno) {
	t.Helper()
	among := map[string]bool{}
	for _, n := range row {
		among[lower(n)] = true
	}
	for _, h := range was {
		a, some := p.Of(h.Host)
		if e == api.OK && among[lower(h.Host)] != some || some && a != h.Addr {
			t.Fatalf("Keep of %q: %v has %v, %t", row, h, a, some)
		}
	}
	if room := ranges.Free(m.pool.Range, m.pool.Reserved); e == api.OK && len(lost) != max(0, len(among)-room) {
		t.Fatalf("Keep of %q lost %q, with room for %d", row, lost, room)
	}
}

// P14.2, Clone: the same, and on its own.
func checkClone(t *testing.T, d *drawn, p *vips.Pool, m *model, names []api.Name) {
	t.Helper()
	q, n := p.Clone(), m.clone()
	check(t, q, n, names)
	for range 3 {
		step(t, d, q, n, names)
		check(t, q, n, names)
		check(t, p, m, names)
	}
	still := n.clone()
	for range 3 {
		step(t, d, p, m, names)
		check(t, q, still, names)
		check(t, p, m, names)
	}
}

// P14.2, Host: of addresses that are none of the range, or none at all.
func TestHostOfOthers(t *testing.T) {
	p := given(t, pool("0.0.0.0/31"), wire("a"), wire("b"))
	for _, a := range []api.Addr{at("0.0.0.2"), at("::"), at("::1"), {Hi: 1}, {Lo: 1 << 32}, {Hi: 1, Lo: 1}, {Six: true, Hi: 1}, {Lo: math.MaxUint64}} {
		if host, some := p.Host(a); some || host != "" {
			t.Errorf("Host of %v = %q, %t", a, host, some)
		}
	}
	for _, a := range []api.Addr{{}, {Lo: 1}} {
		if _, some := p.Host(a); !some {
			t.Errorf("Host of %v: none", a)
		}
	}
	q := given(t, pool("::/128"), wire("a"))
	if host, some := q.Host(api.Addr{}); some || host != "" {
		t.Errorf("Host of 0.0.0.0 = %q, %t", host, some)
	}
	if host, some := q.Host(api.Addr{Six: true}); !some || host != wire("a") {
		t.Errorf("Host of :: = %q, %t", host, some)
	}
}

// P14.2, All: by rising address, of many, and of addresses beside which another order would tell others ahead.
func TestAllRises(t *testing.T) {
	for _, r := range []string{"10.0.0.0/22", "255.255.252.0/22", "127.255.252.0/22", "2001:db8::7fff:ffff:ffff:fc00/118", "ffff:ffff:ffff:ffff:ffff:ffff:ffff:fc00/118"} {
		pool := pool(r)
		p := made(t, pool)
		for k := range 1024 {
			if _, e := p.Give(wire("h"+strconv.Itoa(k), "x")); e != api.OK {
				t.Fatal(e)
			}
		}
		all := p.All()
		checkHeld(t, pool, all)
		if len(all) != 1024 || p.Free() != 0 {
			t.Errorf("%d are held, %d are free", len(all), p.Free())
		}
		for i, h := range all {
			if a, _ := ranges.At(pool.Range, i); h.Addr != a {
				t.Fatalf("place %d: %v", i, h)
			}
		}
	}
}

// P14.1, P14.2: places are the first 2^16 of a wide range; what is reserved behind them reserves none of them.
func TestWideRanges(t *testing.T) {
	for _, c := range []struct {
		pool api.Pool
		free int
	}{
		{pool("10.0.0.0/8"), 1 << 16},
		{pool("10.0.0.0/16"), 1 << 16},
		{pool("10.0.0.0/15", "10.1.0.0/16"), 1 << 16},
		{pool("10.0.0.0/8", "10.0.0.0/17"), 1 << 15},
		{pool("10.0.0.0/8", "10.0.128.0/17", "10.0.0.0/18"), 1 << 14},
		{pool("10.0.0.0/8", "10.0.0.0/15"), 0},
		{pool("10.0.0.0/8", "10.0.0.0/8"), 0},
		{pool("10.0.0.0/8", "10.0.0.0/16"), 0},
		{pool("10.5.0.0/16", "10.0.0.0/8"), 0},
		{pool("0.0.0.0/0", "128.0.0.0/1", "0.0.0.0/32", "0.0.255.255/32"), 1<<16 - 2},
		{pool("::/0", "8000::/1", "::1:0/112", "::/113"), 1 << 15},
		{pool("2001:db8::/32", "2001:db8::/64"), 0},
		{pool("2001:db8::/32", "2001:db8::1:0/112", "2001:db8::ffff/128", "2001:db8:0:0:1::/80"), 1<<16 - 1},
	} {
		p := made(t, c.pool)
		if p.Free() != c.free || ranges.Free(c.pool.Range, c.pool.Reserved) != c.free {
			t.Errorf("Free of %v = %d; want %d", c.pool, p.Free(), c.free)
		}
		var hosts []api.Name
		for k := range 20 {
			hosts = append(hosts, wire("h"+strconv.Itoa(k)))
		}
		lost, e := p.Keep(hosts)
		if e != api.OK || len(lost) != max(0, 20-c.free) {
			t.Errorf("Keep in %v = %q, %v", c.pool, lost, e)
		}
		checkHeld(t, c.pool, p.All())
		for _, n := range hosts {
			if c.free == 0 {
				continue
			}
			a, some := p.Of(n)
			place, is := ranges.Index(c.pool.Range, a)
			if !some || !is {
				t.Fatalf("Of %q in %v = %v, %t", n, c.pool, a, some)
			}
			if slot := hash.Slot(n, 1<<16); c.free == 1<<16 && place != slot { // so few of so many meet none
				t.Errorf("%q in %v has place %d; want %d", n, c.pool, place, slot)
			}
		}
	}
}

// manyHosts is a row of hosts, all of which differ.
func manyHosts(count int) []api.Name {
	row := make([]api.Name, 0, count)
	for k := range count {
		row = append(row, wire("h"+strconv.Itoa(k)))
	}
	return row
}

// P14.3: as many hosts as there are places at most.
func TestAllPlaces(t *testing.T) {
	pool := pool("10.0.0.0/16", "10.0.0.0/32", "10.0.255.255/32")
	p, hosts := made(t, pool), manyHosts(1<<16-2)
	if lost, e := p.Keep(hosts); e != api.OK || len(lost) != 0 || p.Free() != 0 {
		t.Fatalf("Keep of as many as there is room for lost %d, %v", len(lost), e)
	}
	checkHeld(t, pool, p.All())
	if a, e := p.Give(wire("x")); e != api.ErrFull {
		t.Errorf("Give of x = %v, %v", a, e)
	}
}

// P14.1, P14.3, and all calls end soon, too: of many more hosts than there are places.
func TestManyHosts(t *testing.T) {
	pool := pool("10.0.0.0/18", "10.0.0.0/32", "10.0.63.255/32")
	room := 1<<14 - 2
	p, hosts := made(t, pool), manyHosts(300_000)
	if lost, e := p.Keep(hosts); e != api.OK || !slices.Equal(lost, hosts[room:]) {
		t.Errorf("Keep of too many lost %d, %v", len(lost), e)
	}
	for _, h := range hosts[room:] {
		if a, e := p.Give(h); e != api.ErrFull {
			t.Fatalf("Give of %q = %v, %v", h, a, e)
		}
	}
	if lost, e := p.Keep(hosts[room:]); e != api.OK || !slices.Equal(lost, hosts[2*room:]) {
		t.Errorf("Keep of others lost %d, %v", len(lost), e)
	}
	checkHeld(t, pool, p.All())
}

// New ends soon, however many ranges are reserved; those that lie in others count once.
func TestManyReserved(t *testing.T) {
	p := pool("10.0.0.0/16")
	for i := range uint64(100_000) {
		base := at("10.0.0.0")
		base.Lo += 2 * i
		p.Reserved = append(p.Reserved, api.Range{Base: base, Bits: 32}, in("10.0.0.0/17"), in("10.0.0.0/18"), api.Range{Base: api.Addr{Six: true, Lo: i}, Bits: 128})
	}
	q := made(t, p)
	if q.Free() != 1<<14 {
		t.Errorf("Free = %d", q.Free())
	}
	for k := range 1000 {
		a, e := q.Give(wire("h" + strconv.Itoa(k)))
		if place, _ := ranges.Index(p.Range, a); e != api.OK || place < 1<<15 || place%2 == 0 {
			t.Errorf("Give = %v, %v", a, e)
		}
	}
}

// P14.2, Clone: of none nothing; of a clone's clone the same; what is reserved stays so.
func TestClone(t *testing.T) {
	p := given(t, pool("10.0.0.0/29", "10.0.0.4/30"), wire("A"), wire("b"))
	q := p.Clone()
	r := q.Clone()
	if q == p || r == q || !stateOf(p).same(stateOf(q)) || !stateOf(p).same(stateOf(r)) {
		t.Fatalf("a clone holds %v, its clone %v; want %v", q.All(), r.All(), p.All())
	}
	before := stateOf(p)
	if lost, e := q.Keep([]api.Name{wire("c"), wire("d"), wire("e"), wire("f"), wire("a")}); e != api.OK || !slices.Equal(lost, []api.Name{wire("f")}) {
		t.Errorf("Keep in a clone lost %q, %v", lost, e)
	}
	checkHeld(t, pool("10.0.0.0/29", "10.0.0.4/30"), q.All())
	if !before.same(stateOf(p)) || !before.same(stateOf(r)) {
		t.Errorf("what a clone does has others hold %v, %v; want %v", p.All(), r.All(), before.held)
	}
	p.Keep(nil)
	if !before.same(stateOf(r)) || len(q.All()) != 4 {
		t.Errorf("what is dropped is dropped of clones: %v, %v", q.All(), r.All())
	}
}

// Rule 7: a pool that nobody made tells nothing, and has nothing done; so does a copy.
func TestOfNobody(t *testing.T) {
	whole := given(t, pool("10.0.0.0/29"), wire("a"), wire("b"))
	before := stateOf(whole)
	var zero vips.Pool
	copied, clone := *whole, *whole.Clone()
	for what, p := range map[string]*vips.Pool{"nil": nil, "new": new(vips.Pool), "zero": &zero, "a copy": &copied, "a clone's copy": &clone} {
		for range 2 {
			for _, n := range []api.Name{wire("a"), wire("c"), "", "\x02a"} {
				if a, e := p.Give(n); e != api.ErrNil || a != (api.Addr{}) {
					t.Errorf("%s: Give of %q = %v, %v", what, n, a, e)
				}
				if e := p.Drop(n); e != api.ErrNil {
					t.Errorf("%s: Drop of %q = %v", what, n, e)
				}
				if lost, e := p.Keep([]api.Name{n}); e != api.ErrNil || lost != nil {
					t.Errorf("%s: Keep of %q = %v, %v", what, n, lost, e)
				}
				if a, some := p.Of(n); some || a != (api.Addr{}) {
					t.Errorf("%s: Of %q = %v, %t", what, n, a, some)
				}
			}
			if lost, e := p.Keep(nil); e != api.ErrNil || lost != nil {
				t.Errorf("%s: Keep of none = %v, %v", what, lost, e)
			}
			for _, a := range append(addrs(whole), api.Addr{}) {
				if host, some := p.Host(a); some || host != "" {
					t.Errorf("%s: Host of %v = %q, %t", what, a, host, some)
				}
			}
			if all, free, c := p.All(), p.Free(), p.Clone(); len(all) != 0 || free != 0 || c != nil {
				t.Errorf("%s: All = %v, Free = %d, Clone = %v", what, all, free, c)
			}
		}
	}
	if !before.same(stateOf(whole)) {
		t.Errorf("a copy had the pool hold %v", whole.All())
	}
}

func addrs(p *vips.Pool) []api.Addr {
	var row []api.Addr
	for _, h := range p.All() {
		row = append(row, h.Addr)
	}
	return row
}

// Rule 3: what is handed in is neither changed nor kept nor looked at later, its spare room neither; what is answered is new memory.
func TestHandedIn(t *testing.T) {
	room := []api.Range{in("10.0.0.0/30"), in("10.0.0.4/31"), in("0.0.0.0/0"), {Bits: -1}}
	before := slices.Clone(room)
	p := made(t, api.Pool{Range: in("10.0.0.0/29"), Reserved: room[:2]})
	if !slices.Equal(room, before) {
		t.Errorf("New left %v of %v", room, before)
	}
	room[0], room[1] = in("0.0.0.0/0"), in("0.0.0.0/0")
	if p.Free() != 2 || p.Clone().Free() != 2 {
		t.Errorf("Free = %d behind a change of what was handed in", p.Free())
	}
	hosts := []api.Name{wire("a"), wire("B"), wire("c"), wire("C"), wire("d"), wire("e"), "\x00"}
	row := slices.Clone(hosts)
	lost, e := p.Keep(row[:5])
	if e != api.OK || !slices.Equal(lost, []api.Name{wire("c"), wire("d")}) || !slices.Equal(row, hosts) {
		t.Errorf("Keep = %q, %v; it left %q of %q", lost, e, row, hosts)
	}
	for i := range row {
		row[i] = wire("z")
	}
	if !slices.Equal(lost, []api.Name{wire("c"), wire("d")}) {
		t.Errorf("what was lost is in the memory of what was handed in: %q", lost)
	}
	all := p.All()
	want := slices.Clone(all)
	for i := range all {
		all[i] = api.Held{Host: wire("z")}
	}
	all = append(all, api.Held{})
	if got := p.All(); !slices.Equal(got, want) {
		t.Errorf("All = %v behind a change of what it answered; want %v", got, want)
	}
	lost[0] = wire("z")
	lost = append(lost[:1], wire("z"))
	if again, _ := p.Keep(hosts[:5]); !slices.Equal(again, []api.Name{wire("c"), wire("d")}) {
		t.Errorf("Keep = %q behind a change of what it answered", again)
	}
}

// T6: what a call answers hangs on its arguments and on the calls ahead alone: two pools that are told the same tell the same.
func TestSameAgain(t *testing.T) {
	names := scriptNames()
	for _, pool := range pools() {
		p, q := made(t, pool), made(t, pool)
		d := drawn(7)
		for range 200 {
			n := names[d.below(len(names))]
			row := []api.Name{n, names[d.below(len(names))], names[d.below(len(names))]}
			switch d.below(3) {
			case 0:
				a, e := p.Give(n)
				if b, f := q.Give(n); a != b || e != f {
					t.Fatalf("Give of %q: %v, %v; %v, %v", n, a, e, b, f)
				}
			case 1:
				if e, f := p.Drop(n), q.Drop(n); e != f {
					t.Fatalf("Drop of %q: %v; %v", n, e, f)
				}
			default:
				l, e := p.Keep(row)
				if k, f := q.Keep(row); e != f || !slices.Equal(l, k) {
					t.Fatalf("Keep of %q: %q, %v; %q, %v", row, l, e, k, f)
				}
			}
			if !stateOf(p).same(stateOf(q)) || !stateOf(p).same(stateOf(p)) {
				t.Fatalf("All: %v; %v", p.All(), q.All())
			}
		}
	}
}
