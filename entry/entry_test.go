package entry_test

import (
	"fmt"
	"math"
	"reflect"
	"slices"
	"strings"
	"testing"
	"unsafe"

	"nameplate/addr"
	"nameplate/api"
	"nameplate/entry"
	"nameplate/label"
	"nameplate/name"
	"nameplate/record"
)

// drawn is a row of numbers that look as by chance, and are the same each time.
type drawn uint64

func (d *drawn) next() uint64 {
	*d = *d*6364136223846793005 + 1442695040888963407
	return uint64(*d) ^ uint64(*d)>>29
}

// below is a number from 0 to below n.
func (d *drawn) below(n int) int { return int(d.next() >> 11 % uint64(n)) }

// one is one of a row.
func one[T any](d *drawn, row []T) T { return row[d.below(len(row))] }

// wire is the name of labels, put together without a look at whether they may be.
func wire(labels ...string) api.Name {
	var row []byte
	for _, l := range labels {
		row = append(append(row, byte(len(l))), l...)
	}
	return api.Name(row)
}

// dots is the name whose labels stand in s with dots between.
func dots(s string) api.Name { return wire(strings.Split(s, ".")...) }

// great is labels as long as can be, whose name has n octets, from 194 to 256.
func great(n int) api.Name {
	full := strings.Repeat("B", 63)
	return wire(full, full, full, strings.Repeat("b", n-193))
}

// at is the address whose text s is.
func at(s string) api.Addr {
	a, e := addr.Read(s)
	if e != api.OK {
		panic(s)
	}
	return a
}

// ats is the addresses whose texts are handed in.
func ats(texts ...string) []api.Addr {
	var row []api.Addr
	for _, s := range texts {
		row = append(row, at(s))
	}
	return row
}

// elders is so many elder addresses, no two alike.
func elders(n int) []api.Addr {
	var row []api.Addr
	for i := range n {
		row = append(row, addr.Four(10, 0, 0, byte(i)))
	}
	return row
}

// rising is so many ports.
func rising(n int) []int {
	var row []int
	for i := range n {
		row = append(row, 80+i)
	}
	return row
}

// noAddrs are addresses that may not be.
func noAddrs() []api.Addr {
	return []api.Addr{{Hi: 1}, {Lo: 1 << 32}, {Hi: 1, Lo: 1 << 32}, {Hi: math.MaxUint64, Lo: 7}, {Lo: math.MaxUint64}}
}

// badName is a name that may not be, and its error.
type badName struct {
	n api.Name
	e api.Errno
}

func badNames() []badName {
	return []badName{
		{"\x00", api.ErrBad}, {"\x01", api.ErrBad}, {"a", api.ErrBad}, {"\x02a", api.ErrBad}, {"\x01a\x00", api.ErrBad}, {"\x01a\x01", api.ErrBad}, {"\xc0\x00", api.ErrBad},
		{"\x40" + api.Name(strings.Repeat("a", 64)), api.ErrBad},
		{great(255), api.ErrLong}, {wire(slices.Repeat([]string{"a"}, 128)...), api.ErrLong}, {api.Name(strings.Repeat("\x00", 255)), api.ErrLong},
	}
}

// goodNames are names that may be, but the root.
func goodNames() []api.Name {
	return []api.Name{
		dots("a"), dots("A"), dots("b.a"), dots("www.Example.COM"), wire("a.b"), wire("\x00"), wire("\xff\xc0"), wire("."), wire("**"), wire("*a", "b"), wire("a", "*"),
		wire(strings.Repeat("M", 63)), great(254), wire(slices.Repeat([]string{"Z"}, 127)...),
	}
}

// Entries that may be, one of each kind.

func fixed() api.Entry {
	return api.Entry{Host: dots("Host.a"), Kind: api.EntryFixed, Cluster: "Cluster", Addrs: ats("1.2.3.4", "::1"), Ports: []int{80, 443}, TTL: 60}
}

func auto() api.Entry {
	return api.Entry{Host: dots("Auto.a"), Kind: api.EntryAuto, Cluster: "Cluster", Ports: []int{80, 443}, TTL: 60}
}

func alias() api.Entry {
	return api.Entry{Host: dots("Alias.a"), Kind: api.EntryAlias, Alias: dots("Other.b"), TTL: 60}
}

func kinds() []api.Entry { return []api.Entry{fixed(), auto(), alias()} }

// but is e with a change.
func but(e api.Entry, change func(*api.Entry)) api.Entry {
	change(&e)
	return e
}

// like tells whether entries are the same; a nil list and an empty one are.
func like(a, b api.Entry) bool {
	if len(a.Addrs) == 0 && len(b.Addrs) == 0 {
		a.Addrs, b.Addrs = nil, nil
	}
	if len(a.Ports) == 0 && len(b.Ports) == 0 {
		a.Ports, b.Ports = nil, nil
	}
	return reflect.DeepEqual(a, b)
}

// show is a thing, as far as a row of the tests' words has room for it.
func show(v any) string {
	s := fmt.Sprintf("%#v", v)
	return s[:min(len(s), 500)]
}

// The chapter's words, one by one.

func isLabel(s string) bool { return len(s) >= 1 && len(s) <= 63 }

func distinct(row []api.Addr) bool {
	for i := range row {
		for j := range i {
			if row[i] == row[j] {
				return false
			}
		}
	}
	return true
}

func goodAddr(a api.Addr) bool { return a.Six || a.Hi == 0 && a.Lo < 1<<32 }

func goodPorts(row []int) bool {
	for i, p := range row {
		if p < 1 || p > 65535 || i > 0 && p <= row[i-1] {
			return false
		}
	}
	return len(row) <= 8
}

func goodKind(e api.Entry) bool {
	none := len(e.Addrs) == 0
	switch e.Kind {
	case 1:
		return isLabel(e.Cluster) && e.Alias == "" && !none && len(e.Addrs) <= 8 && distinct(e.Addrs) && !slices.ContainsFunc(e.Addrs, func(a api.Addr) bool { return !goodAddr(a) })
	case 2:
		return isLabel(e.Cluster) && e.Alias == "" && none
	case 3:
		return e.Cluster == "" && none && len(e.Ports) == 0 && name.Check(e.Alias) == api.OK && e.Alias != "" && !strings.HasPrefix(string(e.Alias), "\x01*")
	}
	return false
}

// checkBy is what Check should answer.
func checkBy(e api.Entry) api.Errno {
	if fault := name.Check(e.Host); fault != api.OK {
		return fault
	}
	if e.Host == "" || e.TTL > 1<<31-1 || !goodPorts(e.Ports) || !goodKind(e) {
		return api.ErrArg
	}
	return api.OK
}

// addrsBy is what Addrs should answer.
func addrsBy(e api.Entry, held []api.Addr) []api.Addr {
	var row []api.Addr
	if checkBy(e) != api.OK {
		return nil
	}
	if e.Kind == 1 {
		return append(row, e.Addrs...)
	}
	for _, a := range held {
		if e.Kind == 2 && goodAddr(a) {
			row = append(row, a)
		}
	}
	return row
}

// recordsBy is what Records should answer.
func recordsBy(e api.Entry, owner api.Name, addrs []api.Addr, t int) []api.Record {
	var row []api.Record
	if checkBy(e) != api.OK || name.Check(owner) != api.OK {
		return nil
	}
	for _, a := range addrsBy(e, addrs) {
		if t == 1 && !a.Six || t == 28 && a.Six {
			row = append(row, api.Record{Name: owner, Type: t, Class: 1, TTL: e.TTL, Data: api.Data{Addr: a}})
		}
	}
	for _, p := range e.Ports {
		if t == 33 {
			row = append(row, api.Record{Name: owner, Type: 33, Class: 1, TTL: e.TTL, Data: api.Data{Nums: [5]uint32{0, 0, uint32(p)}, Name: owner}})
		}
	}
	if t == 5 && e.Kind == 3 {
		row = append(row, api.Record{Name: owner, Type: 5, Class: 1, TTL: e.TTL, Data: api.Data{Name: e.Alias}})
	}
	return row
}

// wantAll holds Check, Key, Copy and Same of an entry against what they should answer.
func wantAll(t *testing.T, e api.Entry) {
	t.Helper()
	if got, want := entry.Check(e), checkBy(e); got != want {
		t.Errorf("Check = %d; want %d: %s", got, want, show(e))
	}
	key := name.Fold(e.Host)
	if got := entry.Key(e); got != key {
		t.Errorf("Key = %q; want %q: %s", got, key, show(e))
	}
	copied := entry.Copy(e)
	if !like(copied, e) || !entry.Same(copied, e) || !entry.Same(e, copied) {
		t.Errorf("Copy = %s; want %s", show(copied), show(e))
	}
}

func wantAddrs(t *testing.T, e api.Entry, held, want []api.Addr) {
	t.Helper()
	if got := entry.Addrs(e, held); !slices.Equal(got, want) {
		t.Errorf("Addrs = %v; want %v: %s, held %v", got, want, show(e), held)
	}
}

// wantRecords holds Records against what they should be; each of them may be, and what it doesn't have is zero.
func wantRecords(t *testing.T, e api.Entry, owner api.Name, addrs []api.Addr, typ int, want []api.Record) {
	t.Helper()
	got := entry.Records(e, owner, addrs, typ)
	if len(got) != len(want) || len(want) > 0 && !reflect.DeepEqual(got, want) {
		t.Errorf("Records of type %d = %s; want %s: owner %q of %s, with %v", typ, show(got), show(want), owner, show(e), addrs)
	}
	for _, r := range got {
		if fault := record.Check(r); fault != api.OK {
			t.Errorf("record.Check = %d: %s", fault, show(r))
		}
	}
}

// wantNothing holds Addrs and Records of each type against nothing.
func wantNothing(t *testing.T, e api.Entry) {
	t.Helper()
	wantAddrs(t, e, ats("5.6.7.8", "::2"), nil)
	for typ := range 300 {
		wantRecords(t, e, dots("b.a"), ats("5.6.7.8", "::2"), typ, nil)
	}
}

// wantFault holds all of an entry that may not be against its error, and nothing.
func wantFault(t *testing.T, want api.Errno, e api.Entry) {
	t.Helper()
	if got := entry.Check(e); got != want {
		t.Errorf("Check = %d; want %d: %s", got, want, show(e))
	}
	wantAll(t, e)
	wantNothing(t, e)
}

func wantOK(t *testing.T, e api.Entry) {
	t.Helper()
	if got := entry.Check(e); got != api.OK {
		t.Errorf("Check = %d; want 0: %s", got, show(e))
	}
	wantAll(t, e)
}

// The chapter's examples.
func TestExamples(t *testing.T) {
	e, owner := fixed(), dots("b.a")
	base := api.Record{Name: owner, Class: api.ClassIN, TTL: 60}
	a, first, second := base, base, base
	a.Type, a.Data = api.TypeA, api.Data{Addr: addr.Four(1, 2, 3, 4)}
	first.Type, first.Data = api.TypeSRV, api.Data{Nums: [5]uint32{0, 0, 80}, Name: owner}
	second.Type, second.Data = api.TypeSRV, api.Data{Nums: [5]uint32{0, 0, 443}, Name: owner}
	wantRecords(t, e, owner, nil, api.TypeA, []api.Record{a})
	wantRecords(t, e, owner, nil, api.TypeSRV, []api.Record{first, second})
}

// P16.1: an entry of each kind may be.
func TestCheckOK(t *testing.T) {
	for _, e := range kinds() {
		wantOK(t, e)
		e.Ports = nil
		wantOK(t, e)
		e.Ports, e.TTL = []int{}, 0
		wantOK(t, e)
	}
	wantOK(t, but(auto(), func(e *api.Entry) { e.Addrs = []api.Addr{} }))
	wantOK(t, but(alias(), func(e *api.Entry) { e.Addrs = []api.Addr{} }))
}

// P16.1: the Host's error is name's, ahead of all else; the root is none.
func TestCheckHost(t *testing.T) {
	spoil := []func(*api.Entry){
		func(*api.Entry) {},
		func(e *api.Entry) { e.TTL = math.MaxUint32 },
		func(e *api.Entry) { e.Ports = []int{0} },
		func(e *api.Entry) { e.Kind = 0 },
		func(e *api.Entry) { e.Cluster, e.Alias = strings.Repeat("c", 64), great(255) },
		func(e *api.Entry) { e.Alias = "\x00" },
	}
	for _, e := range kinds() {
		for _, n := range append(goodNames(), wire("*"), wire("*", "a"), wire("*", "*")) {
			e.Host = n
			wantOK(t, e)
		}
		for _, change := range spoil {
			for _, b := range badNames() {
				e.Host = b.n
				wantFault(t, b.e, but(e, change))
			}
			e.Host = ""
			wantFault(t, api.ErrArg, but(e, change))
		}
	}
}

// P16.1: a TTL of MaxTTL, and one more.
func TestCheckTTL(t *testing.T) {
	for _, e := range kinds() {
		for _, ttl := range []uint32{0, 1, 1<<31 - 2, 1<<31 - 1} {
			e.TTL = ttl
			wantOK(t, e)
		}
		for _, ttl := range []uint32{1 << 31, 1<<31 + 1, math.MaxUint32} {
			e.TTL = ttl
			wantFault(t, api.ErrArg, e)
		}
	}
}

// P16.1: ports are at most eight, from 1 to 65,535, and rise.
func TestCheckPorts(t *testing.T) {
	for _, e := range []api.Entry{fixed(), auto()} {
		for _, ports := range [][]int{
			nil, {}, {1}, {65535}, {1, 65535}, {1, 2}, {65534, 65535}, rising(7), rising(8), {1, 2, 3, 4, 5, 6, 7, 65535},
		} {
			e.Ports = ports
			wantOK(t, e)
		}
		for _, ports := range [][]int{
			{0}, {-1}, {math.MinInt}, {65536}, {65537}, {math.MaxInt}, {1<<32 + 80}, {-65456}, {0, 1}, {-1, 1}, {1, 65536}, {65535, 65536},
			{80, 80}, {1, 1}, {65535, 65535}, {80, 443, 443}, {80, 80, 443}, {443, 80}, {2, 1}, {80, 443, 81}, {443, 80, 444}, {1, 3, 2}, {1, 0}, {1, -1},
			rising(9), rising(10), rising(300), append(rising(8), 65535), append(rising(7), 80), append(rising(7), 0), append([]int{0}, rising(7)...),
		} {
			e.Ports = ports
			wantFault(t, api.ErrArg, e)
		}
	}
}

// P16.1: a fixed entry's addresses, from one to eight, no two alike.
func TestCheckAddrs(t *testing.T) {
	e := fixed()
	for _, addrs := range [][]api.Addr{
		elders(1), elders(7), elders(8), ats("0.0.0.0"), ats("::"), ats("255.255.255.255", "0.0.0.0"), ats("::1", "0.0.0.1"), ats("0.0.0.1", "::1"),
		ats("1::", "::1", "1::1"), ats("2.2.2.2", "1.1.1.1"), ats("ffff:ffff:ffff:ffff:ffff:ffff:ffff:ffff"), append(elders(7), at("::")),
	} {
		e.Addrs = addrs
		wantOK(t, e)
		wantAddrs(t, e, ats("9.9.9.9"), addrs)
	}
	bad := [][]api.Addr{
		nil, {}, elders(9), elders(200), ats("::1", "::1"), ats("1.1.1.1", "2.2.2.2", "1.1.1.1"), ats("1.1.1.1", "2.2.2.2", "2.2.2.2"),
		append(elders(7), addr.Four(10, 0, 0, 0)), append(elders(7), addr.Four(10, 0, 0, 6)), append(elders(8), addr.Four(10, 0, 0, 0)),
	}
	for _, a := range noAddrs() {
		bad = append(bad, []api.Addr{a}, append(elders(1), a), append([]api.Addr{a}, elders(1)...), append(elders(7), a))
	}
	for _, addrs := range bad {
		e.Addrs = addrs
		wantFault(t, api.ErrArg, e)
	}
}

// P16.1: a Cluster that is a label, of a fixed entry and of an auto one.
func TestCheckCluster(t *testing.T) {
	for _, e := range []api.Entry{fixed(), auto()} {
		for _, cluster := range []string{"c", ".", "*", "\x00", "\xff", " ", "a.b", strings.Repeat("c", 62), strings.Repeat("c", 63)} {
			e.Cluster = cluster
			wantOK(t, e)
		}
		for _, cluster := range []string{"", strings.Repeat("c", 64), strings.Repeat("c", 65), strings.Repeat("c", 300)} {
			e.Cluster = cluster
			if label.Check(cluster) == api.OK {
				t.Errorf("%q is a label", cluster)
			}
			wantFault(t, api.ErrArg, e)
		}
	}
}

// P16.1: an alias' Alias may be, and is neither the root nor a wildcard; that it is its own host is none of this.
func TestCheckAlias(t *testing.T) {
	e := alias()
	for _, n := range append(goodNames(), e.Host) {
		e.Alias = n
		wantOK(t, e)
	}
	for _, n := range []api.Name{"", wire("*"), wire("*", "a"), wire("*", "*"), wire("*", strings.Repeat("a", 63))} {
		e.Alias = n
		wantFault(t, api.ErrArg, e)
	}
	for _, b := range badNames() {
		e.Alias = b.n
		wantFault(t, api.ErrArg, e)
	}
}

// P16.1: what a kind does not have is none.
func TestCheckWhatAKindHasNot(t *testing.T) {
	for _, n := range append(goodNames(), wire("*"), "\x00", great(255)) {
		wantFault(t, api.ErrArg, but(fixed(), func(e *api.Entry) { e.Alias = n }))
		wantFault(t, api.ErrArg, but(auto(), func(e *api.Entry) { e.Alias = n }))
	}
	for _, addrs := range [][]api.Addr{elders(1), elders(8), elders(9), ats("::"), {{}}, {{Hi: 1}}, {{Six: true}}} {
		wantFault(t, api.ErrArg, but(auto(), func(e *api.Entry) { e.Addrs = addrs }))
		wantFault(t, api.ErrArg, but(alias(), func(e *api.Entry) { e.Addrs = addrs }))
	}
	for _, ports := range [][]int{{80}, {80, 443}, {0}, rising(8), rising(9)} {
		wantFault(t, api.ErrArg, but(alias(), func(e *api.Entry) { e.Ports = ports }))
	}
	for _, cluster := range []string{"c", strings.Repeat("c", 63), strings.Repeat("c", 64)} {
		wantFault(t, api.ErrArg, but(alias(), func(e *api.Entry) { e.Cluster = cluster }))
	}
}

// P16.1: there are three kinds; what one has is not what another needs.
func TestCheckKind(t *testing.T) {
	if api.EntryFixed != 1 || api.EntryAuto != 2 || api.EntryAlias != 3 {
		t.Fatal("the kinds' numbers")
	}
	rows := append(kinds(), api.Entry{Host: dots("a")}, api.Entry{Host: dots("a"), Cluster: "c", Alias: dots("b"), Addrs: elders(1)})
	for _, e := range rows {
		own := e.Kind
		for _, kind := range []int{math.MinInt, -3, -1, 0, 1, 2, 3, 4, 5, 255, 257, 1<<32 + 1, math.MaxInt} {
			e.Kind = kind
			if own != 0 && kind == own {
				wantOK(t, e)
			} else {
				wantFault(t, api.ErrArg, e)
			}
		}
	}
	wantFault(t, api.ErrArg, api.Entry{})
}

// P16.1: Key is the Host folded, of an entry that may not be, too; of a Host that may not be it is none.
func TestKey(t *testing.T) {
	for _, c := range []struct{ host, key api.Name }{
		{dots("a"), dots("a")}, {dots("A"), dots("a")}, {dots("WWW.Example.com"), dots("www.example.com")}, {wire("*", "A"), wire("*", "a")},
		{wire("@[`{", "\xc1\x00"), wire("@[`{", "\xc1\x00")}, {wire("A.B"), wire("a.b")}, {"", ""}, {"\x00", ""}, {"\x02A", ""}, {great(255), ""},
		{great(254), api.Name(strings.ReplaceAll(string(great(254)), "B", "b"))},
	} {
		for _, e := range append(kinds(), api.Entry{}) {
			e.Host = c.host
			if got := entry.Key(e); got != c.key {
				t.Errorf("Key = %q; want %q", got, c.key)
			}
		}
	}
}

// changes are ways in which an entry becomes another one, each of them in one part alone.
func changes() map[string]func(*api.Entry) {
	return map[string]func(*api.Entry){
		"another host":         func(e *api.Entry) { e.Host = dots("Z.a") },
		"a host's end":         func(e *api.Entry) { e.Host += "\x01x" },
		"a host's case":        func(e *api.Entry) { e.Host = dots("hOST.A") },
		"a kind":               func(e *api.Entry) { e.Kind += 3 },
		"a cluster":            func(e *api.Entry) { e.Cluster += "x" },
		"a cluster's case":     func(e *api.Entry) { e.Cluster = "cLUSTER" },
		"an alias":             func(e *api.Entry) { e.Alias += "\x01x" },
		"an alias' case":       func(e *api.Entry) { e.Alias = dots("oTHER.B") },
		"one address more":     func(e *api.Entry) { e.Addrs = append(slices.Clone(e.Addrs), at("9.9.9.9")) },
		"the zero address":     func(e *api.Entry) { e.Addrs = append(slices.Clone(e.Addrs), api.Addr{}) },
		"another address":      func(e *api.Entry) { e.Addrs = ats("1.2.3.4", "::2") },
		"an address' kind":     func(e *api.Entry) { e.Addrs = ats("1.2.3.4", "0.0.0.1") },
		"an address' high end": func(e *api.Entry) { e.Addrs = ats("1.2.3.4", "0:0:0:1::1") },
		"addresses' order":     func(e *api.Entry) { e.Addrs = ats("::1", "1.2.3.4") },
		"one port more":        func(e *api.Entry) { e.Ports = append(slices.Clone(e.Ports), 444) },
		"port 0":               func(e *api.Entry) { e.Ports = append(slices.Clone(e.Ports), 0) },
		"another port":         func(e *api.Entry) { e.Ports = []int{81, 443} },
		"ports' order":         func(e *api.Entry) { e.Ports = []int{443, 80} },
		"one port":             func(e *api.Entry) { e.Ports = []int{80} },
		"a TTL":                func(e *api.Entry) { e.TTL++ },
		"a TTL's highest bit":  func(e *api.Entry) { e.TTL ^= 1 << 31 },
	}
}

// P16.1: Same looks at each part, case too, whether the entries may be or not.
func TestSame(t *testing.T) {
	rows := append(kinds(), api.Entry{}, but(fixed(), func(e *api.Entry) { e.Host, e.Alias = "\x00", dots("Other.b") }))
	for i, a := range rows {
		for j, b := range rows {
			if got := entry.Same(a, b); got != (i == j) {
				t.Errorf("Same = %v: %s, %s", got, show(a), show(b))
			}
		}
		for what, change := range changes() {
			b := but(a, change)
			if entry.Same(a, b) || entry.Same(b, a) || !entry.Same(b, but(a, change)) {
				t.Errorf("Same of entries that differ by %s: %s, %s", what, show(a), show(b))
			}
		}
	}
	// A nil list and an empty one are the same.
	if !entry.Same(api.Entry{}, api.Entry{Addrs: []api.Addr{}, Ports: []int{}}) || !entry.Same(api.Entry{Addrs: []api.Addr{}, Ports: []int{}}, api.Entry{}) {
		t.Error("Same tells a nil list from an empty one")
	}
}

// fill has each place of a row, its spare room too, be another one.
func fill[T any](row []T, v T) {
	row = row[:cap(row)]
	for i := range row {
		row[i] = v
	}
}

// spoil changes all the rows of an entry, their spare room too.
func spoil(e api.Entry) {
	fill(e.Addrs, api.Addr{Hi: 77, Lo: 77})
	fill(e.Ports, 7777)
}

// spare is a row with room behind it, which another owns.
func spare[T any](row []T, behind T) (short, all []T) {
	all = append(slices.Clone(row), behind, behind, behind)
	return all[:len(row):len(all)], all
}

// P16.1: a Copy is the same, and what is done to either's rows leaves the other as it was.
func TestCopy(t *testing.T) {
	rows := append(kinds(), api.Entry{}, api.Entry{Addrs: []api.Addr{}, Ports: []int{}}, api.Entry{Host: "\x00", Kind: -1, Cluster: strings.Repeat("c", 99), Addrs: []api.Addr{{Hi: 3}}, Alias: "\x07", Ports: []int{9, 1}, TTL: math.MaxUint32})
	for i := range rows {
		made := func() (api.Entry, []api.Addr, []int) {
			e := append(kinds(), rows[3:]...)[i]
			var addrs []api.Addr
			var ports []int
			e.Addrs, addrs = spare(e.Addrs, api.Addr{Lo: 55})
			e.Ports, ports = spare(e.Ports, 55)
			return e, addrs, ports
		}
		e, addrs, ports := made()
		want, wantAddrs, wantPorts := made()
		copied, again := entry.Copy(e), entry.Copy(e)
		if !like(copied, want) || !entry.Same(copied, want) {
			t.Errorf("Copy = %s; want %s", show(copied), show(want))
		}
		spoil(copied)
		if !like(e, want) || !slices.Equal(addrs, wantAddrs) || !slices.Equal(ports, wantPorts) {
			t.Errorf("a change of a copy changes the entry: %s, %v, %v", show(e), addrs, ports)
		}
		if !like(again, want) {
			t.Errorf("a change of a copy changes another one: %s", show(again))
		}
		spoil(e)
		if !like(again, want) {
			t.Errorf("a change of the entry changes a copy: %s", show(again))
		}
	}
}

// Rule 3: a Copy's texts are its own, whatever the memory of those that were copied has later.
func TestCopyOfTexts(t *testing.T) {
	memory := []byte("\x01h" + "cc" + "\x01a")
	text := func(from int) string { return unsafe.String(&memory[from], 2) }
	copied := entry.Copy(api.Entry{Host: api.Name(text(0)), Kind: api.EntryAlias, Cluster: text(2), Alias: api.Name(text(4))})
	copy(memory, "xxxxxx")
	if want := (api.Entry{Host: "\x01h", Kind: api.EntryAlias, Cluster: "cc", Alias: "\x01a"}); !like(copied, want) {
		t.Errorf("Copy = %s; want %s", show(copied), show(want))
	}
}

// P16.2: Addrs of a fixed entry are its own, in order; of an auto one those of held that may be; of an alias none.
func TestAddrs(t *testing.T) {
	bad := noAddrs()
	mixed := []api.Addr{bad[0], at("::2"), bad[1], at("5.6.7.8"), at("::2"), bad[2], at("1.1.1.1"), bad[3]}
	for _, c := range []struct{ held, told []api.Addr }{
		{nil, nil}, {[]api.Addr{}, nil}, {ats("5.6.7.8"), ats("5.6.7.8")}, {ats("::2"), ats("::2")}, {[]api.Addr{{}}, []api.Addr{{}}},
		{bad[:1], nil}, {bad, nil}, {mixed, ats("::2", "5.6.7.8", "::2", "1.1.1.1")}, {append(elders(20), bad...), elders(20)},
	} {
		wantAddrs(t, fixed(), c.held, ats("1.2.3.4", "::1"))
		wantAddrs(t, auto(), c.held, c.told)
		wantAddrs(t, alias(), c.held, nil)
		for _, e := range kinds() {
			e.TTL = 1 << 31
			wantAddrs(t, e, c.held, nil)
		}
	}
}

// with is a record that an entry has under b.a.
func with(typ int, d api.Data) api.Record {
	return api.Record{Name: dots("b.a"), Type: typ, Class: 1, TTL: 60, Data: d}
}

func withAddrs(typ int, texts ...string) []api.Record {
	var row []api.Record
	for _, s := range texts {
		row = append(row, with(typ, api.Data{Addr: at(s)}))
	}
	return row
}

// P16.2: records of type A and AAAA: of each elder and newer address, in order.
func TestRecordsOfAddresses(t *testing.T) {
	owner := dots("b.a")
	e := fixed()
	e.Addrs = ats("::2", "9.9.9.9", "::1", "1.1.1.1", "0.0.0.1", "::")
	held := ats("7.7.7.7", "::7")
	wantRecords(t, e, owner, held, 1, withAddrs(1, "9.9.9.9", "1.1.1.1", "0.0.0.1"))
	wantRecords(t, e, owner, held, 28, withAddrs(28, "::2", "::1", "::"))
	e.Addrs = ats("9.9.9.9")
	wantRecords(t, e, owner, held, 28, nil)
	e.Addrs = ats("::9")
	wantRecords(t, e, owner, held, 1, nil)

	bad := noAddrs()
	held = []api.Addr{bad[0], at("::2"), at("9.9.9.9"), bad[1], bad[2], at("1.1.1.1"), at("::1"), at("9.9.9.9"), bad[3]}
	wantRecords(t, auto(), owner, held, 1, withAddrs(1, "9.9.9.9", "1.1.1.1", "9.9.9.9"))
	wantRecords(t, auto(), owner, held, 28, withAddrs(28, "::2", "::1"))
	for _, typ := range []int{1, 28} {
		wantRecords(t, auto(), owner, nil, typ, nil)
		wantRecords(t, auto(), owner, bad, typ, nil)
		wantRecords(t, alias(), owner, held, typ, nil)
	}
}

// P16.2: records of type SRV: of each port one, of an entry with or without addresses.
func TestRecordsOfPorts(t *testing.T) {
	for _, e := range []api.Entry{fixed(), auto()} {
		for _, ports := range [][]int{nil, {1}, {65535}, {80, 443}, {1, 255, 256, 65535}, rising(8)} {
			e.Ports = ports
			var want []api.Record
			for _, p := range ports {
				want = append(want, with(33, api.Data{Nums: [5]uint32{0, 0, uint32(p), 0, 0}, Name: dots("b.a")}))
			}
			wantRecords(t, e, dots("b.a"), nil, 33, want)
			wantRecords(t, e, dots("b.a"), elders(3), 33, want)
		}
	}
	wantRecords(t, alias(), dots("b.a"), elders(3), 33, nil)
}

// P16.2: records of type CNAME: of an alias one, of another entry none.
func TestRecordsOfAliases(t *testing.T) {
	e := alias()
	for _, n := range append(goodNames(), e.Host, dots("b.a")) {
		e.Alias = n
		wantRecords(t, e, dots("b.a"), elders(2), 5, []api.Record{with(5, api.Data{Name: n})})
	}
	wantRecords(t, fixed(), dots("b.a"), elders(2), 5, nil)
	wantRecords(t, auto(), dots("b.a"), elders(2), 5, nil)
}

// P16.2: of other types there are none.
func TestRecordsOfOtherTypes(t *testing.T) {
	types := []int{math.MinInt, -28, -1, 65535, 65536, 65537, 65536 + 5, 65536 + 28, 65536 + 33, 1<<32 + 1, math.MaxInt}
	for typ := range 1000 {
		types = append(types, typ)
	}
	for _, typ := range types {
		for _, e := range kinds() {
			if slices.Contains([]int{1, 5, 28, 33}, typ) {
				continue
			}
			wantRecords(t, e, dots("b.a"), ats("5.6.7.8", "::2"), typ, nil)
		}
	}
}

// P16.2: records stand under the owner's name as it is told, with the entry's TTL; an owner that may not be has none.
func TestRecordsUnderOwners(t *testing.T) {
	held := ats("5.6.7.8", "::2")
	for _, e := range kinds() {
		for _, ttl := range []uint32{0, 1, 60, 1<<31 - 1} {
			e.TTL = ttl
			for _, owner := range append(goodNames(), "", wire("*"), wire("*", "A"), e.Host) {
				for _, typ := range []int{1, 5, 28, 33} {
					wantRecords(t, e, owner, held, typ, recordsBy(e, owner, held, typ))
				}
			}
		}
		for _, b := range badNames() {
			for typ := range 50 {
				wantRecords(t, e, b.n, held, typ, nil)
			}
		}
	}
}

// parts are what entries are made of, such as may be and such as may not.
type parts struct {
	hosts, aliases []api.Name
	clusters       []string
	addrs          [][]api.Addr
	ports          [][]int
	ttls           []uint32
}

func allParts() parts {
	return parts{
		hosts:    []api.Name{dots("a"), dots("B.a"), wire("*", "a"), great(254), dots("c"), dots("d"), "", "\x02a", great(255)},
		aliases:  []api.Name{"", "", "", dots("a"), dots("B.c"), wire("*", "a"), "\x00", great(255)},
		clusters: []string{"", "", "c", "C.d", strings.Repeat("c", 63), strings.Repeat("c", 64)},
		addrs:    [][]api.Addr{nil, {}, elders(1), elders(8), ats("::1", "1.1.1.1", "::"), elders(9), ats("::1", "::1"), {{Hi: 1}}, {{Lo: 1 << 32}}, {{}}},
		ports:    [][]int{nil, {}, nil, {80}, {80, 443}, rising(8), {1, 65535}, rising(9), {0}, {65536}, {443, 80}, {80, 80}},
		ttls:     []uint32{0, 60, 1<<31 - 1, 1 << 31},
	}
}

// entry is one of drawn parts, or, more often, one of a kind with some of them in the place of its own.
func (p parts) entry(d *drawn) api.Entry {
	other := api.Entry{Host: one(d, p.hosts), Kind: d.below(5), Cluster: one(d, p.clusters), Addrs: one(d, p.addrs), Alias: one(d, p.aliases), Ports: one(d, p.ports), TTL: one(d, p.ttls)}
	if d.below(4) == 0 {
		return other
	}
	e := one(d, kinds())
	for range d.below(3) {
		switch d.below(7) {
		case 0:
			e.Host = other.Host
		case 1:
			e.Kind = other.Kind
		case 2:
			e.Cluster = other.Cluster
		case 3:
			e.Addrs = other.Addrs
		case 4:
			e.Alias = other.Alias
		case 5:
			e.Ports = other.Ports
		case 6:
			e.TTL = other.TTL
		}
	}
	return e
}

// P16.1 to P16.3: entries of all sorts, held against the chapter's words.
func TestAllSorts(t *testing.T) {
	p, d, may := allParts(), drawn(16), map[int]int{}
	types := []int{1, 5, 28, 33, 0, 2, 6, 12, 15, 16, 41, -1, 65536}
	for range 40_000 {
		e := p.entry(&d)
		wantAll(t, e)
		owner, held := one(&d, p.hosts), append(slices.Clone(one(&d, p.addrs)), one(&d, p.addrs)...)
		wantAddrs(t, e, held, addrsBy(e, held))
		var all []api.Record
		for _, typ := range types {
			want := recordsBy(e, owner, held, typ)
			wantRecords(t, e, owner, held, typ, want)
			all = append(all, want...)
		}
		if checkBy(e) == api.OK {
			may[e.Kind]++
		}
		if t.Failed() {
			t.FailNow()
		}
	}
	for kind := 1; kind <= 3; kind++ {
		if may[kind] < 2000 {
			t.Errorf("of kind %d only %d may be", kind, may[kind])
		}
	}
}

// P16.3: no record of one type is like one of another.
func TestTypesAreUnlike(t *testing.T) {
	e := fixed()
	e.Addrs, e.Ports = ats("0.0.0.1", "::1", "0.0.0.0", "::"), []int{1, 2}
	entries := append(kinds(), e)
	types := []int{1, 5, 28, 33, 0, 16}
	for _, e := range entries {
		for _, owner := range []api.Name{"", dots("b.a"), e.Host, e.Alias} {
			for _, one := range types {
				for _, other := range types {
					for _, r := range entry.Records(e, owner, e.Addrs, one) {
						same := func(s api.Record) bool { return record.Same(r, s) }
						if got := slices.ContainsFunc(entry.Records(e, owner, e.Addrs, other), same); got != (one == other) {
							t.Errorf("types %d and %d: like is %v: %s", one, other, got, show(r))
						}
					}
				}
			}
		}
	}
}

// Rule 3: nothing that is handed in is changed, its spare room neither, and nothing that is answered shares memory with it.
func TestHandedIn(t *testing.T) {
	for i := range kinds() {
		e, want := kinds()[i], kinds()[i]
		var addrs []api.Addr
		var ports []int
		e.Addrs, addrs = spare(e.Addrs, api.Addr{Lo: 55})
		e.Ports, ports = spare(e.Ports, 55)
		held, all := spare([]api.Addr{{Hi: 1}, at("5.6.7.8"), {Hi: 2}, at("::2")}, api.Addr{Lo: 55})
		wantAddrs, wantPorts, wantHeld := slices.Clone(addrs), slices.Clone(ports), slices.Clone(all)
		entry.Check(e)
		entry.Key(e)
		entry.Same(e, e)
		first, second := entry.Addrs(e, held), entry.Addrs(e, held)
		fill(first, api.Addr{Lo: 99})
		if !slices.Equal(second, addrsBy(want, held)) {
			t.Errorf("Addrs = %v behind a change of what was answered ahead", second)
		}
		for _, typ := range []int{1, 5, 28, 33} {
			some, again := entry.Records(e, dots("b.a"), held, typ), entry.Records(e, dots("b.a"), held, typ)
			fill(some, api.Record{Type: 99})
			if rows := recordsBy(want, dots("b.a"), held, typ); !slices.EqualFunc(again, rows, record.Same) {
				t.Errorf("Records = %s behind a change of what was answered ahead", show(again))
			}
		}
		if !like(e, want) || !slices.Equal(addrs, wantAddrs) || !slices.Equal(ports, wantPorts) || !slices.Equal(all, wantHeld) {
			t.Errorf("what was handed in is changed: %s, %v, %v, %v", show(e), addrs, ports, all)
		}
	}
}

// Rule 3: what was answered stays as it was, whatever is done later to what was handed in.
func TestAnsweredStays(t *testing.T) {
	e, held := fixed(), ats("5.6.7.8", "::2")
	own, told := entry.Addrs(e, held), entry.Addrs(auto(), held)
	rows := [][]api.Record{entry.Records(e, dots("b.a"), held, 1), entry.Records(auto(), dots("b.a"), held, 28), entry.Records(e, dots("b.a"), held, 33)}
	spoil(e)
	fill(held, api.Addr{Lo: 99})
	if !slices.Equal(own, ats("1.2.3.4", "::1")) || !slices.Equal(told, ats("5.6.7.8", "::2")) {
		t.Errorf("Addrs = %v, %v", own, told)
	}
	held = ats("5.6.7.8", "::2")
	for i, want := range [][]api.Record{recordsBy(fixed(), dots("b.a"), held, 1), recordsBy(auto(), dots("b.a"), held, 28), recordsBy(fixed(), dots("b.a"), held, 33)} {
		if !slices.EqualFunc(rows[i], want, record.Same) {
			t.Errorf("Records = %s; want %s", show(rows[i]), show(want))
		}
	}
}

// Rows far longer than may be end soon.
func TestLongRows(t *testing.T) {
	const many = 1_000_000
	e := fixed()
	e.Addrs = slices.Repeat(ats("1.1.1.1", "::1"), many)
	wantFault := func(e api.Entry) {
		t.Helper()
		if entry.Check(e) != api.ErrArg || !entry.Same(e, entry.Copy(e)) || len(entry.Addrs(e, nil)) != 0 || len(entry.Records(e, "", nil, 1)) != 0 {
			t.Error("a row that is far too long")
		}
	}
	wantFault(e)
	wantFault(but(auto(), func(e *api.Entry) { e.Ports = rising(many) }))
	wantFault(but(auto(), func(e *api.Entry) { e.Cluster = strings.Repeat("c", many) }))
	wantFault(but(alias(), func(e *api.Entry) { e.Alias = api.Name(strings.Repeat("\x01c", many)) }))
	held := slices.Repeat(ats("1.1.1.1", "::1"), many/10)
	if len(entry.Addrs(auto(), held)) != many/5 || len(entry.Records(auto(), dots("a"), held, 28)) != many/10 {
		t.Error("a long row of held addresses")
	}
}
