package rlog_test

import (
	"fmt"
	"math"
	"math/rand/v2"
	"slices"
	"strconv"
	"strings"
	"testing"

	"tontine/api"
	"tontine/rlog"
)

// last is the greatest index.
const last uint64 = math.MaxUint64

// bytesOf are a number's bytes by the words of layer 3.
func bytesOf(x uint64) string {
	var out []byte
	for ; x > 0; x /= 256 {
		out = append([]byte{byte(x % 256)}, out...)
	}
	return string([]byte{byte(len(out))}) + string(out)
}

// setOf is the sound set that data says; 0, if it says none.
func setOf(data string) uint64 {
	for c := uint64(1); c < 128; c++ {
		if data == bytesOf(c) {
			return c
		}
	}
	return 0
}

// mayLieOf: by the words.
func mayLieOf(x api.Entry, ahead, term uint64) bool {
	if ahead == last || x.Index != ahead+1 || x.Term < term || len(x.Data) > 32768 {
		return false
	}
	return x.Kind == 0 || x.Kind == 1 || x.Kind == 2 && setOf(x.Data) != 0
}

// A book is a log by the chapter's words: it looks at all entries for each thing that it is asked for.
type book struct {
	snap api.Snapshot
	l    []api.Entry
}

// sound tells whether it is a log.
func (b book) sound() bool {
	ahead, term := b.snap.Index, b.snap.Term
	for _, x := range b.l {
		if !mayLieOf(x, ahead, term) {
			return false
		}
		ahead, term = x.Index, x.Term
	}
	return b.snap.Config > 0 && b.snap.Config < 128
}

// those are the entries that something is true of.
func (b book) those(is func(x api.Entry) bool) []api.Entry {
	var out []api.Entry
	for _, x := range b.l {
		if is(x) {
			out = append(out, x)
		}
	}
	return out
}

// at is the entry at i; false, if there is none.
func (b book) at(i uint64) (api.Entry, bool) {
	l := b.those(func(x api.Entry) bool { return x.Index == i })
	if len(l) == 0 {
		return api.Entry{}, false
	}
	return l[0], true
}

func (b book) last() (uint64, uint64) {
	i, t := b.snap.Index, b.snap.Term
	for _, x := range b.l {
		i, t = x.Index, x.Term
	}
	return i, t
}

func (b book) term(i uint64) (uint64, api.Errno) {
	if i == b.snap.Index {
		return b.snap.Term, api.OK
	}
	if x, ok := b.at(i); ok {
		return x.Term, api.OK
	}
	return 0, api.ErrGone
}

func (b book) get(i uint64, n int) []api.Entry {
	var out []api.Entry
	if _, ok := b.at(i); !ok {
		return nil
	}
	for _, x := range b.l {
		if x.Index >= i && len(out) < n {
			out = append(out, x)
		}
	}
	return out
}

func (b book) members(i uint64) (uint64, uint64) {
	c, at := b.snap.Config, b.snap.Index
	for _, x := range b.l {
		if x.Kind == 2 && x.Index <= i {
			c, at = setOf(x.Data), x.Index
		}
	}
	return c, at
}

func (b *book) add(term uint64, kind int, data string) (api.Entry, api.Errno) {
	i, t := b.last()
	x := api.Entry{Term: term, Index: i + 1, Kind: kind, Data: data}
	if !mayLieOf(x, i, t) {
		return api.Entry{}, api.ErrArg
	}
	b.l = append(slices.Clone(b.l), x)
	return x, api.OK
}

func (b *book) merge(index, term uint64, l []api.Entry) ([]api.Entry, bool) {
	if !(book{api.Snapshot{Index: index, Term: term, Config: 1}, l}).sound() {
		return nil, false
	}
	for len(l) > 0 && l[0].Index <= b.snap.Index {
		index, term, l = l[0].Index, l[0].Term, l[1:]
	}
	if index < b.snap.Index {
		return nil, true
	}
	if t, e := b.term(index); e != api.OK || t != term {
		return nil, false
	}
	for k, x := range l {
		if t, e := b.term(x.Index); e == api.OK && t == x.Term {
			continue
		}
		b.cut(x.Index)
		b.l = slices.Concat(b.l, l[k:])
		return slices.Clone(l[k:]), true
	}
	return nil, true
}

func (b *book) cut(i uint64) {
	if _, ok := b.at(i); ok {
		b.l = b.those(func(x api.Entry) bool { return x.Index < i })
	}
}

func (b *book) compact(i uint64, data string) api.Errno {
	x, ok := b.at(i)
	if !ok {
		return api.ErrGone
	}
	c, _ := b.members(i)
	b.snap = api.Snapshot{Index: i, Term: x.Term, Config: c, Data: data}
	b.l = b.those(func(x api.Entry) bool { return x.Index > i })
	return api.OK
}

func (b *book) install(s api.Snapshot) api.Errno {
	if s.Config == 0 || s.Config > 127 {
		return api.ErrArg
	}
	if s.Index <= b.snap.Index {
		return api.ErrGone
	}
	x, ok := b.at(s.Index)
	stay := ok && x.Term == s.Term
	b.snap = s
	b.l = b.those(func(x api.Entry) bool { return stay && x.Index > s.Index })
	return api.OK
}

// short tells entries, the greatest data not wholly.
func short(l []api.Entry) string {
	s := fmt.Sprintf("%+v", l)
	return s[:min(len(s), 300)]
}

// opened is the log that a book says.
func opened(t *testing.T, b book) *rlog.Log {
	t.Helper()
	g, e := rlog.New(b.snap, b.l)
	if e != api.OK || g == nil {
		t.Fatalf("New of %+v answers %v, %d", b, g, e)
	}
	return g
}

// near are indexes around all that a book has, and the least and greatest ones.
func near(b book) []uint64 {
	out := []uint64{0, 1, 2, 1<<32 + b.snap.Index, 1<<63 + b.snap.Index, last - 1, last}
	end, _ := b.last()
	for i := range end - b.snap.Index + 7 {
		out = append(out, b.snap.Index-3+i)
	}
	return out
}

// same holds all that a log tells to what the book says: P7.2, that it is a log, with it.
func same(t *testing.T, g *rlog.Log, b book) {
	t.Helper()
	if s := g.First(); s != b.snap {
		t.Fatalf("First answers %+v, want %+v", s, b.snap)
	}
	i, x := g.Last()
	if wi, wx := b.last(); i != wi || x != wx {
		t.Fatalf("Last answers %d, %d, want %d, %d", i, x, wi, wx)
	}
	if l := g.Get(g.First().Index+1, math.MaxInt); !slices.Equal(l, b.l) {
		t.Fatalf("the entries are %+v, want %+v", l, b.l)
	}
	if !b.sound() {
		t.Fatalf("%+v is no log", b)
	}
	c, at := g.Members()
	if wc, wat := b.members(last); c != wc || at != wat {
		t.Fatalf("Members answers %d, %d, want %d, %d", c, at, wc, wat)
	}
}

// sameAt holds what a log tells of each index near it to what the book says.
func sameAt(t *testing.T, g *rlog.Log, b book) {
	t.Helper()
	for _, i := range near(b) {
		x, e := g.Term(i)
		if wx, we := b.term(i); x != wx || e != we {
			t.Fatalf("Term of %d answers %d, %d, want %d, %d, in %+v", i, x, e, wx, we, b)
		}
		c, at := g.MembersAt(i)
		if wc, wat := b.members(i); c != wc || at != wat {
			t.Fatalf("MembersAt %d answers %d, %d, want %d, %d, in %+v", i, c, at, wc, wat, b)
		}
		for _, n := range []int{math.MinInt, -1, 0, 1, 2, 3, len(b.l), len(b.l) + 1, math.MaxInt - 1, math.MaxInt} {
			if l, want := g.Get(i, n), b.get(i, n); !slices.Equal(l, want) {
				t.Fatalf("Get of %d and %d answers %+v, want %+v, in %+v", i, n, l, want, b)
			}
		}
	}
}

// draws gives numbers that look like chance and are the same each time.
func draws(seed int) *rand.Rand { return rand.New(rand.NewPCG(uint64(seed), 7)) }

// entries lie behind an index, of these terms; whose they are says their data. Some are of EntryConfig, the same ones of each owner.
func entries(behind uint64, owner string, terms ...uint64) []api.Entry {
	var out []api.Entry
	for k, term := range terms {
		x := api.Entry{Term: term, Index: behind + 1 + uint64(k), Kind: (k + int(term)) % 3, Data: owner + strconv.Itoa(k)}
		if x.Kind == api.EntryConfig {
			x.Data = bytesOf(1 + 8*uint64(len(owner)) + x.Index%5)
		}
		out = append(out, x)
	}
	return out
}

// chains are all lists of at most so many terms below a bound, or just those that don't fall from a least one on.
func chains(most int, bound uint64, least uint64, rising bool) [][]uint64 {
	out := [][]uint64{nil}
	if most == 0 {
		return out
	}
	for term := range bound {
		if rising && term < least {
			continue
		}
		for _, more := range chains(most-1, bound, term, rising) {
			out = append(out, append([]uint64{term}, more...))
		}
	}
	return out
}

// books are all logs of at most three entries of terms below 3, behind snapshots of index 0 to 2 and term 0 or 1.
func books() []book {
	var out []book
	for index := range uint64(3) {
		for term := range uint64(2) {
			for _, terms := range chains(3, 3, term, true) {
				out = append(out, book{api.Snapshot{Index: index, Term: term, Config: 9 + index, Data: "s"}, entries(index, "a", terms...)})
			}
		}
	}
	return out
}

// P7.1: Config answers a number's bytes, of any number.
func TestConfig(t *testing.T) {
	for c, want := range map[uint64]string{0: "\x00", 1: "\x01\x01", 127: "\x01\x7f", 128: "\x01\x80", 300: "\x02\x01\x2c", last: "\x08" + strings.Repeat("\xff", 8)} {
		if got := rlog.Config(c); got != want {
			t.Errorf("Config of %d answers % x, want % x", c, got, want)
		}
	}
	r := draws(0)
	for c := range uint64(1000) {
		x := r.Uint64() >> r.IntN(64)
		if rlog.Config(c) != bytesOf(c) || rlog.Config(x) != bytesOf(x) {
			t.Fatalf("Config of %d answers % x, of %d % x", c, rlog.Config(c), x, rlog.Config(x))
		}
	}
}

// A row is an entry, and whether it may lie behind index 6 of term 4.
type row struct {
	x  api.Entry
	ok bool
}

// rows are entries at each edge of what may lie behind index 6 of term 4.
func rows() []row {
	most := strings.Repeat("\x00", 32768)
	out := []row{
		{api.Entry{Term: 4, Index: 7}, true}, {api.Entry{Term: 5, Index: 7}, true}, {api.Entry{Term: last, Index: 7, Kind: 1}, true},
		{api.Entry{Term: 3, Index: 7}, false}, {api.Entry{Term: 0, Index: 7}, false}, {api.Entry{Term: 3, Index: 7, Kind: 1, Data: "x"}, false},
		{api.Entry{Term: 4, Index: 6}, false}, {api.Entry{Term: 4, Index: 8}, false}, {api.Entry{Term: 4}, false},
		{api.Entry{Term: 4, Index: last}, false}, {api.Entry{Term: 4, Index: 7 + 1<<32}, false}, {api.Entry{Term: 4, Index: 7 + 1<<63}, false},
		{api.Entry{Term: 4, Index: 7, Data: most}, true}, {api.Entry{Term: 4, Index: 7, Kind: 1, Data: most}, true},
		{api.Entry{Term: 4, Index: 7, Data: most + "\x00"}, false}, {api.Entry{Term: 4, Index: 7, Kind: 1, Data: most + "x"}, false},
		{api.Entry{Term: 4, Index: 7, Kind: 1, Data: most + most}, false}, {api.Entry{Term: 4, Index: 7, Kind: 2, Data: most}, false},
		{api.Entry{Term: 4, Index: 7, Data: "\x01\x80"}, true}, {api.Entry{Term: 4, Index: 7, Kind: 1, Data: "\x01\x80"}, true},
	}
	for _, kind := range []int{3, 4, -1, -2, 5, 256, 257, 258, 1 << 32, 1<<32 + 1, math.MaxInt, math.MinInt} {
		out = append(out, row{api.Entry{Term: 4, Index: 7, Kind: kind, Data: "\x01\x03"}, false}, row{api.Entry{Term: 4, Index: 7, Kind: kind}, false})
	}
	for c := range uint64(300) {
		out = append(out, row{api.Entry{Term: 4, Index: 7, Kind: 2, Data: bytesOf(c)}, c > 0 && c < 128})
	}
	for _, data := range []string{
		"", "\x00", "\x01", "\x01\x00", "\x02\x00\x01", "\x01\x03\x00", "\x01\x03x", "\x01\x03\x01\x03", "\x00\x03", "\x03", "\x02\x03", "\x09\x03", "\xff\x03",
		"\x08\x00\x00\x00\x00\x00\x00\x00\x03", "\x08\x80\x00\x00\x00\x00\x00\x00\x03", bytesOf(last), bytesOf(256 + 3), bytesOf(1<<32 + 3), "3", "\x02\x01\x03\x03",
	} {
		out = append(out, row{api.Entry{Term: 4, Index: 7, Kind: 2, Data: data}, false})
	}
	return out
}

// P7.1: what may lie is the same for New, Add and Merge, as the first one behind the snapshot, and behind another one.
func TestMayLie(t *testing.T) {
	for k, x := range rows() {
		alone := book{api.Snapshot{Index: 6, Term: 4, Config: 7}, []api.Entry{x.x}}
		ahead := api.Entry{Term: 4, Index: 6, Kind: 1, Data: "ahead"}
		behind := book{api.Snapshot{Index: 5, Term: 2, Config: 7}, []api.Entry{ahead, x.x}}
		for _, b := range []book{alone, behind} {
			news(t, b, x.ok)
			merges(t, book{b.snap, b.l[:len(b.l)-1]}, 6, 4, []api.Entry{x.x})
			merges(t, book{b.snap, nil}, b.snap.Index, b.snap.Term, b.l)
			if x.x.Index == 7 {
				adds(t, book{b.snap, b.l[:len(b.l)-1]}, x.x, x.ok)
			}
		}
		if got := mayLieOf(x.x, 6, 4); got != x.ok {
			t.Fatalf("row %d, %.60q: the words say %v", k, x.x.Data, got)
		}
	}
}

// news holds New to making a log of a book, or, of what is none, nothing.
func news(t *testing.T, b book, ok bool) {
	t.Helper()
	if ok {
		same(t, opened(t, b), b)
		return
	}
	if g, e := rlog.New(b.snap, b.l); g != nil || e != api.ErrArg {
		t.Fatalf("New of %s answers %v, %d", short(b.l), g, e)
	}
}

// adds holds Add of what an entry has to laying it, or to doing nothing.
func adds(t *testing.T, b book, x api.Entry, ok bool) {
	t.Helper()
	g := opened(t, b)
	got, e := g.Add(x.Term, x.Kind, x.Data)
	want, f := b.add(x.Term, x.Kind, x.Data)
	if got != want || e != f || (e == api.OK) != ok || ok && got != x {
		t.Fatalf("Add of %d, %d, %.60q answers %+v, %d", x.Term, x.Kind, x.Data, got, e)
	}
	same(t, g, b)
}

// merges holds Merge to the words, and to leaving what it is handed.
func merges(t *testing.T, b book, index, term uint64, l []api.Entry) {
	t.Helper()
	g := opened(t, b)
	was, before := b, slices.Clone(l)
	got, ok := g.Merge(index, term, l)
	want, wok := b.merge(index, term, before)
	if ok != wok || !slices.Equal(got, want) {
		t.Fatalf("Merge of %d, %d, %s answers %s, %v, want %s, %v, in %+v, %s", index, term, short(l), short(got), ok, short(want), wok, was.snap, short(was.l))
	}
	if !slices.Equal(l, before) {
		t.Fatalf("Merge of %s leaves %s", short(before), short(l))
	}
	same(t, g, b)
}

// P7.1: New takes a snapshot with a sound set, whatever else it has, and no other.
func TestNewSnapshots(t *testing.T) {
	r := draws(1)
	for c := range uint64(600) {
		for _, config := range []uint64{c, c + 1<<32, c + 1<<63, c << 57, c << 7, last - c} {
			s := api.Snapshot{Index: r.Uint64() >> r.IntN(64), Term: r.Uint64() >> r.IntN(64), Config: config, Data: "x"}
			news(t, book{s, nil}, config > 0 && config < 128)
			news(t, book{api.Snapshot{Config: config}, entries(0, "a", 1)}, config > 0 && config < 128)
		}
	}
	for _, index := range []uint64{0, 1, last - 1, last} {
		for _, term := range []uint64{0, 1, last} {
			b := book{api.Snapshot{Index: index, Term: term, Config: 127, Data: strings.Repeat("x", 3*api.MaxRecord)}, nil}
			news(t, b, true)
			sameAt(t, opened(t, b), b)
		}
	}
}

// P7.1: New takes all lists of indexes that lie one behind the other, and no others.
func TestNewIndexes(t *testing.T) {
	for _, first := range []uint64{0, 1, 5, last - 2, last - 1, last} {
		for a := range uint64(5) {
			for c := range uint64(5) {
				l := []api.Entry{{Term: 1, Index: first + a - 1}, {Term: 1, Index: first + c - 1}}
				b := book{api.Snapshot{Index: first, Term: 1, Config: 1}, l}
				news(t, b, a == 2 && c == 3 && first < last-1)
				b.l = l[:1]
				news(t, b, a == 2 && first < last)
			}
		}
	}
}

// P7.1: what a log tells of each index, for all small logs, near the least indexes and the greatest.
func TestTells(t *testing.T) {
	for _, b := range books() {
		g := opened(t, b)
		same(t, g, b)
		sameAt(t, g, b)
		high := book{b.snap, slices.Clone(b.l)}
		for _, more := range []uint64{1<<32 - 1, 1<<63 - 2, last - 5, last - 2 - uint64(len(b.l))} {
			high.snap.Index = b.snap.Index + more
			for k := range high.l {
				high.l[k].Index = b.l[k].Index + more
			}
			g := opened(t, high)
			same(t, g, high)
			sameAt(t, g, high)
		}
	}
}

// P7.1: the chapter's example of Merge.
func TestMergeExample(t *testing.T) {
	g := opened(t, book{api.Snapshot{Config: 7}, []api.Entry{{Term: 1, Index: 1}, {Term: 1, Index: 2}, {Term: 2, Index: 3}}})
	x := api.Entry{Term: 3, Index: 3, Kind: 1, Data: "x"}
	if l, ok := g.Merge(2, 1, []api.Entry{x}); !ok || !slices.Equal(l, []api.Entry{x}) {
		t.Errorf("Merge answers %+v, %v", l, ok)
	}
	if l := g.Get(3, 1); !slices.Equal(l, []api.Entry{x}) {
		t.Errorf("the third is %+v", l)
	}
	if l, ok := g.Merge(2, 2, []api.Entry{{Term: 4, Index: 3}}); ok || len(l) != 0 {
		t.Errorf("Merge behind another term answers %+v, %v", l, ok)
	}
}

// P7.1: Merge of all small logs, with all small lists of entries, behind each index and term.
func TestMergeAllSmall(t *testing.T) {
	lists := chains(4, 3, 0, false)
	for _, b := range books() {
		for index := range uint64(7) {
			for term := range uint64(3) {
				for _, terms := range lists {
					merges(t, b, index, term, entries(index, "their", terms...))
				}
			}
		}
	}
}

// P7.1: what Merge answers at its edges: what is there stays, what isn't new isn't answered, and what can't be changes nothing.
func TestMergeEdges(t *testing.T) {
	b := book{api.Snapshot{Index: 10, Term: 3, Config: 7, Data: "s"}, entries(10, "a", 3, 4, 4, 6)}
	for k, x := range []struct {
		index, term uint64
		l           []api.Entry
		ok          bool
		news        int
	}{
		{10, 3, nil, true, 0}, {10, 4, nil, false, 0}, {14, 6, nil, true, 0}, {14, 5, nil, false, 0}, {15, 6, nil, false, 0},
		{9, 1, nil, true, 0}, {0, 0, nil, true, 0}, {9, last, nil, true, 0}, // the snapshot stands for these
		{last, 6, nil, false, 0}, {last, 6, []api.Entry{{Term: 6}}, false, 0}, {last, 6, []api.Entry{{Term: 6, Index: last}}, false, 0},
		{10, 3, entries(10, "b", 3, 4, 4, 6), true, 0}, {10, 3, entries(10, "b", 3), true, 0}, {11, 3, entries(11, "b", 4, 4), true, 0}, // all there
		{10, 3, entries(10, "b", 3, 4, 4, 6, 6, 7), true, 2}, {14, 6, entries(14, "b", 6, 9), true, 2}, // some behind
		{10, 3, entries(10, "b", 3, 4, 5), true, 1}, {10, 3, entries(10, "b", 3, 3, 4, 6), true, 3}, {10, 3, entries(10, "b", 4, 4, 4, 6), true, 4},
		{7, 2, entries(7, "b", 2, 2), true, 0}, {7, 2, entries(7, "b", 2, 2, 3), true, 0}, {7, 2, entries(7, "b", 2, 2, 2), false, 0},
		{7, 2, entries(7, "b", 2, 2, 3, 3, 5), true, 1}, {7, 2, entries(7, "b", 2, 2, 4, 4, 5), false, 0}, {7, 4, entries(7, "b", 4, 4), true, 0},
		{7, 2, entries(7, "b", 2, 1), false, 0}, {7, 3, entries(7, "b", 2), false, 0}, {7, 3, entries(8, "b", 3), false, 0}, // ahead of it, and wrong
		{10, 3, entries(10, "b", 3, 4, 5, 4), false, 0}, {10, 3, append(entries(10, "b", 3, 9), entries(13, "b", 9)...), false, 0},
		{10, 3, append(entries(10, "b", 9, 9), api.Entry{Term: 9, Index: 13, Kind: 3}), false, 0},
		{10, 3, append(entries(10, "b", 9, 9), api.Entry{Term: 9, Index: 13, Kind: 2, Data: "\x01\x80"}), false, 0},
		{9, 3, entries(9, "b", 3), true, 0}, {9, 2, entries(9, "b", 4), false, 0}, {9, 2, entries(9, "b", 3, 5), true, 1}, {9, 3, entries(10, "b", 3), false, 0},
	} {
		g := opened(t, b)
		if l, ok := g.Merge(x.index, x.term, x.l); ok != x.ok || len(l) != x.news || !slices.Equal(l, x.l[len(x.l)-len(l):]) {
			t.Errorf("row %d: Merge answers %+v, %v", k, l, ok)
		}
		merges(t, b, x.index, x.term, x.l)
	}
}

// P7.1, rule 5: at the greatest index there is no place behind, and nothing wraps.
func TestGreatestIndex(t *testing.T) {
	b := book{api.Snapshot{Index: last - 2, Term: 1, Config: 1}, entries(last-2, "a", 1, 2)}
	g := opened(t, b)
	for term := range uint64(5) {
		for kind := -1; kind < 4; kind++ {
			if x, e := g.Add(term, kind, "\x01\x01"); x != (api.Entry{}) || e != api.ErrArg {
				t.Fatalf("Add answers %+v, %d", x, e)
			}
		}
	}
	same(t, g, b)
	sameAt(t, g, b)
	for _, l := range [][]api.Entry{nil, entries(last, "b", 2), entries(last-1, "b", 1, 2), entries(last-1, "b", 3), entries(last-1, "b", 1), {{Term: 2, Index: 1}}} {
		for index := last - 4; index != 2; index++ {
			for term := range uint64(4) {
				merges(t, b, index, term, l)
			}
		}
	}
	if e := g.Compact(last, "end"); e != api.OK || g.First() != (api.Snapshot{Index: last, Term: 2, Config: 1, Data: "end"}) {
		t.Fatalf("Compact answers %d, and there is %+v", e, g.First())
	}
	if x, e := g.Add(9, 0, ""); x != (api.Entry{}) || e != api.ErrArg {
		t.Fatalf("Add behind the last snapshot answers %+v, %d", x, e)
	}
	sameAt(t, g, book{snap: g.First()})
}

// P7.1: Cut, of all small logs at each index near them; what was there behind isn't seen again.
func TestCut(t *testing.T) {
	for _, b := range books() {
		for _, i := range near(b) {
			g, c := opened(t, b), b
			g.Cut(i)
			c.cut(i)
			same(t, g, c)
			sameAt(t, g, c)
			g.Add(9, 1, "x")
			c.add(9, 1, "x")
			same(t, g, c)
		}
	}
}

// P7.1: Compact, of all small logs at each index near them.
func TestCompact(t *testing.T) {
	for _, b := range books() {
		for _, i := range near(b) {
			g, c := opened(t, b), b
			if e, f := g.Compact(i, "new"), c.compact(i, "new"); e != f {
				t.Fatalf("Compact of %d answers %d, want %d, in %+v", i, e, f, b)
			}
			same(t, g, c)
			sameAt(t, g, c)
		}
	}
	b := book{api.Snapshot{Config: 1}, entries(0, "a", 1)}
	g, long := opened(t, b), strings.Repeat("x", 5*api.MaxRecord)
	if e := g.Compact(1, long); e != api.OK || g.First().Data != long {
		t.Errorf("Compact of long data answers %d", e)
	}
}

// P7.1: Install, of all small logs, with snapshots of each index near them, each term, and sets that are sound or not.
func TestInstall(t *testing.T) {
	for _, b := range books() {
		for _, i := range near(b) {
			for _, term := range []uint64{0, 1, 2, 3, last} {
				for _, config := range []uint64{0, 1, 127, 128, 129, 1 << 63, last} {
					g, c := opened(t, b), b
					s := api.Snapshot{Index: i, Term: term, Config: config, Data: "theirs"}
					if e, f := g.Install(s), c.install(s); e != f {
						t.Fatalf("Install of %+v answers %d, want %d, in %+v", s, e, f, b)
					}
					same(t, g, c)
					sameAt(t, g, c)
				}
			}
		}
	}
}

// P7.1: Install, a row for each of its edges: what stays, what goes, and which error is ahead.
func TestInstallEdges(t *testing.T) {
	b := book{api.Snapshot{Index: 10, Term: 3, Config: 7, Data: "s"}, entries(10, "a", 3, 4, 4, 6)}
	for k, x := range []struct {
		index, term, config uint64
		e                   api.Errno
		stay                int
	}{
		{10, 3, 0, api.ErrArg, 4}, {9, 3, 128, api.ErrArg, 4}, {11, 3, 0, api.ErrArg, 4}, {0, 0, 0, api.ErrArg, 4},
		{10, 3, 1, api.ErrGone, 4}, {10, 9, 1, api.ErrGone, 4}, {9, 3, 1, api.ErrGone, 4}, {0, 0, 127, api.ErrGone, 4},
		{11, 3, 1, api.OK, 3}, {12, 4, 1, api.OK, 2}, {14, 6, 1, api.OK, 0}, {11, 4, 1, api.OK, 0}, {11, 2, 1, api.OK, 0},
		{13, 5, 1, api.OK, 0}, {14, 9, 1, api.OK, 0}, {15, 6, 1, api.OK, 0}, {last, 0, 127, api.OK, 0},
	} {
		g, s := opened(t, b), api.Snapshot{Index: x.index, Term: x.term, Config: x.config, Data: "x"}
		want := s
		if x.e != api.OK {
			want = b.snap
		}
		if e := g.Install(s); e != x.e || g.First() != want || !slices.Equal(g.Get(want.Index+1, 9), b.l[4-x.stay:]) {
			t.Errorf("row %d: Install answers %d, and there is %+v, %+v", k, e, g.First(), g.Get(want.Index+1, 9))
		}
	}
}

// P7.1: a set is said by the last EntryConfig, by the one ahead when that is cut or merged away, and by the snapshot when none is left.
func TestMembers(t *testing.T) {
	l := []api.Entry{{Term: 1, Index: 4, Kind: 2, Data: bytesOf(3)}, {Term: 1, Index: 5, Kind: 1, Data: bytesOf(5)}, {Term: 1, Index: 6, Kind: 2, Data: bytesOf(9)}, {Term: 1, Index: 7, Data: bytesOf(5)}}
	g := opened(t, book{api.Snapshot{Index: 3, Term: 1, Config: 7}, l})
	told := func(what string, c, at uint64) {
		t.Helper()
		if gc, gat := g.Members(); gc != c || gat != at {
			t.Errorf("%s: Members answers %d, %d, want %d, %d", what, gc, gat, c, at)
		}
	}
	told("all", 9, 6)
	for i, want := range []uint64{7, 7, 7, 7, 3, 3, 9, 9, 9} {
		if c, _ := g.MembersAt(uint64(i)); c != want {
			t.Errorf("MembersAt %d answers %d, want %d", i, c, want)
		}
	}
	g.Merge(5, 1, []api.Entry{{Term: 2, Index: 6, Kind: 1, Data: bytesOf(64)}})
	told("merged away", 3, 4)
	g.Add(2, 2, bytesOf(64))
	told("added", 64, 7)
	g.Compact(5, "")
	told("compacted", 64, 7)
	g.Cut(7)
	told("cut", 3, 5)
	g.Cut(6)
	told("cut more", 3, 5)
	g.Install(api.Snapshot{Index: 6, Config: 32})
	told("installed", 32, 6)
}

// P7.1, rule 7: a nil log answers by the words.
func TestNil(t *testing.T) {
	var g *rlog.Log
	if s := g.First(); s != (api.Snapshot{}) {
		t.Errorf("First answers %+v", s)
	}
	if i, x := g.Last(); i != 0 || x != 0 {
		t.Errorf("Last answers %d, %d", i, x)
	}
	if c, at := g.Members(); c != 0 || at != 0 {
		t.Errorf("Members answers %d, %d", c, at)
	}
	for _, i := range []uint64{0, 1, 7, last} {
		if x, e := g.Term(i); x != 0 || e != api.ErrGone {
			t.Errorf("Term answers %d, %d", x, e)
		}
		if c, at := g.MembersAt(i); c != 0 || at != 0 {
			t.Errorf("MembersAt answers %d, %d", c, at)
		}
		if l := g.Get(i, math.MaxInt); len(l) != 0 {
			t.Errorf("Get answers %+v", l)
		}
		for _, l := range [][]api.Entry{nil, entries(i, "a", 1), entries(i, "a", 1, 0)} {
			if x, ok := g.Merge(i, 0, l); len(x) != 0 || ok {
				t.Errorf("Merge answers %+v, %v", x, ok)
			}
		}
		if e := g.Compact(i, "x"); e != api.ErrGone {
			t.Errorf("Compact answers %d", e)
		}
		for _, c := range []uint64{0, 1, 128} {
			if e := g.Install(api.Snapshot{Index: i, Config: c}); e != api.ErrArg {
				t.Errorf("Install answers %d", e)
			}
		}
		g.Cut(i)
	}
	for kind := -1; kind < 4; kind++ {
		if x, e := g.Add(1, kind, "\x01\x01"); x != (api.Entry{}) || e != api.ErrArg {
			t.Errorf("Add answers %+v, %d", x, e)
		}
	}
}

// A walk is a log, the book that it is held against, and the draws of what is called.
type walk struct {
	g *rlog.Log
	b book
	r *rand.Rand
}

// index is one near the log, mostly; else any.
func (w *walk) index() uint64 {
	end, _ := w.b.last()
	if w.r.IntN(20) == 0 {
		return w.r.Uint64() >> w.r.IntN(64)
	}
	return w.b.snap.Index - 2 + w.r.Uint64N(end-w.b.snap.Index+5)
}

// term is one near the last one.
func (w *walk) term() uint64 {
	_, t := w.b.last()
	return max(t, 1) - 1 + w.r.Uint64N(3)
}

// theirs are an index, a term and entries, as they may come: mostly from a log that has the same ahead.
func (w *walk) theirs() (uint64, uint64, []api.Entry) {
	index := w.index()
	term, e := w.b.term(index)
	if e != api.OK || w.r.IntN(12) == 0 {
		term = w.term()
	}
	var terms []uint64
	t := term
	for k := range w.r.Uint64N(6) {
		if x, ok := w.b.at(index + 1 + k); ok && w.r.IntN(4) > 0 {
			t = x.Term
		} else if w.r.IntN(3) == 0 {
			t++
		}
		terms = append(terms, t)
	}
	return index, term, entries(index, strconv.Itoa(w.r.IntN(3)), terms...)
}

// step makes a call on both, and holds what they answer against one another.
func (w *walk) step(t *testing.T) {
	t.Helper()
	switch w.r.IntN(12) {
	case 0:
		i := w.index()
		w.g.Cut(i)
		w.b.cut(i)
	case 1:
		i := w.index()
		if e, f := w.g.Compact(i, "kept"), w.b.compact(i, "kept"); e != f {
			t.Fatalf("Compact of %d answers %d, want %d", i, e, f)
		}
	case 2:
		s := api.Snapshot{Index: w.index(), Term: w.term(), Config: w.r.Uint64N(131), Data: "sent"}
		if x, e := w.b.term(s.Index); e == api.OK && w.r.IntN(3) > 0 {
			s.Term = x
		}
		if s.Index > w.b.snap.Index+50 {
			return // what lies behind would be far from all that a log has
		}
		if e, f := w.g.Install(s), w.b.install(s); e != f {
			t.Fatalf("Install of %+v answers %d, want %d", s, e, f)
		}
	case 3, 4, 5, 6:
		index, term, l := w.theirs()
		was := w.b
		x, ok := w.g.Merge(index, term, l)
		if want, wok := w.b.merge(index, term, l); ok != wok || !slices.Equal(x, want) {
			t.Fatalf("Merge of %d, %d, %+v answers %+v, %v, want %+v, %v, in %+v", index, term, l, x, ok, want, wok, was)
		}
		merged(t, w.g, ok, l, x)
	default:
		term, kind, data := w.term(), w.r.IntN(4), bytesOf(w.r.Uint64N(131))
		x, e := w.g.Add(term, kind, data)
		if want, f := w.b.add(term, kind, data); x != want || e != f {
			t.Fatalf("Add of %d, %d, % x answers %+v, %d, want %+v, %d", term, kind, data, x, e, want, f)
		}
	}
}

// merged holds P7.2: what was merged is there: each entry that was new as it is, and at the index of each other one behind the snapshot one of its term.
func merged(t *testing.T, g *rlog.Log, ok bool, l, news []api.Entry) {
	t.Helper()
	for _, x := range l {
		if x.Index <= g.First().Index || !ok {
			continue
		}
		if term, e := g.Term(x.Index); e != api.OK || term != x.Term {
			t.Fatalf("what was merged, %+v, isn't there: Term answers %d, %d", x, term, e)
		}
	}
	for _, x := range news {
		if there := g.Get(x.Index, 1); !slices.Equal(there, []api.Entry{x}) {
			t.Fatalf("what was merged, %+v, isn't there, but %+v", x, there)
		}
	}
}

// P7.1, P7.2: long runs of all calls, from the least indexes, from some between, and up to the greatest.
func TestRuns(t *testing.T) {
	for seed := range 600 {
		r := draws(seed)
		snap := api.Snapshot{Index: []uint64{0, 3, 1<<32 - 5, 1<<63 - 3, last - 40, last - 3}[seed%6], Term: r.Uint64N(3), Config: 7}
		if seed%7 == 0 {
			snap.Term = last - 9
		}
		w := &walk{b: book{snap: snap}, r: r}
		w.g = opened(t, w.b)
		for k := range 120 {
			w.step(t)
			same(t, w.g, w.b)
			if k%8 == 0 {
				sameAt(t, w.g, w.b)
			}
			if g, e := rlog.New(w.g.First(), w.g.Get(w.g.First().Index+1, math.MaxInt)); g == nil || e != api.OK {
				t.Fatalf("what is there is no log: New answers %d", e)
			}
		}
	}
}

// A node of a group has a log, and beside it all entries that it stands for, those too for which its snapshot stands.
type node struct {
	g   *rlog.Log
	all []api.Entry
}

// A group is nodes, and which entries were added: each at most once, by the one leader of its term.
type group struct {
	nodes []*node
	added map[[2]uint64]bool
	r     *rand.Rand
}

// grouped are nodes whose logs begin as one.
func grouped(t *testing.T, seed int) *group {
	p := &group{added: map[[2]uint64]bool{}, r: draws(seed)}
	for range 2 + p.r.IntN(4) {
		p.nodes = append(p.nodes, &node{g: opened(t, book{snap: api.Snapshot{Config: 7}})})
	}
	return p
}

// lead lets node k add an entry of its term, if none of its index and term was added.
func (p *group) lead(k int) {
	n := p.nodes[k]
	index, before := n.g.Last()
	term := uint64(k) + 1
	for term < before || p.r.IntN(3) == 0 {
		term += uint64(len(p.nodes)) // so that each term is just one node's
	}
	place := [2]uint64{index + 1, term}
	if p.added[place] {
		return
	}
	p.added[place] = true
	kind, data := p.r.IntN(2), strconv.Itoa(p.r.IntN(1000000))
	if p.r.IntN(4) == 0 {
		kind, data = api.EntryConfig, rlog.Config(1+p.r.Uint64N(127))
	}
	if x, e := n.g.Add(term, kind, data); e == api.OK {
		n.all = append(slices.Clone(n.all), x)
	}
}

// send merges some of one's entries into another's log, or installs its snapshot there, if it has the entry no more.
func (p *group) send(t *testing.T, from, to *node) {
	t.Helper()
	first := from.g.First()
	end, _ := from.g.Last()
	index := first.Index + p.r.Uint64N(end-first.Index+1)
	if p.r.IntN(6) == 0 {
		if to.g.Install(first) == api.OK {
			stay := to.g.Get(first.Index+1, math.MaxInt)
			to.all = slices.Concat(from.all[:first.Index], stay)
		}
		return
	}
	term, _ := from.g.Term(index)
	l := from.g.Get(index+1, p.r.IntN(6))
	x, ok := to.g.Merge(index, term, l)
	merged(t, to.g, ok, l, x)
	if len(x) > 0 {
		to.all = slices.Concat(to.all[:x[0].Index-1], x)
	}
}

// match holds P7.3: of two nodes, that have the same up to each index at which their terms are the same.
func match(t *testing.T, a, b *node) {
	t.Helper()
	aEnd, _ := a.g.Last()
	bEnd, _ := b.g.Last()
	for i := min(aEnd, bEnd); i > 0; i-- {
		at, ae := a.g.Term(i)
		bt, be := b.g.Term(i)
		if ae != api.OK || be != api.OK || at != bt {
			continue
		}
		if !slices.Equal(a.all[:i], b.all[:i]) {
			t.Fatalf("at %d of term %d: %+v and %+v", i, at, a.all[:i], b.all[:i])
		}
		ac, _ := a.g.MembersAt(i)
		bc, _ := b.g.MembersAt(i)
		if ac != bc {
			t.Fatalf("at %d of term %d the members are %d and %d", i, at, ac, bc)
		}
		return // those ahead are the same, so all smaller indexes match
	}
}

// stands holds a node's log to what it stands for.
func stands(t *testing.T, n *node) {
	t.Helper()
	first := n.g.First().Index
	if l := n.g.Get(first+1, math.MaxInt); !slices.Equal(l, n.all[first:]) {
		t.Fatalf("there is %+v behind %d, want %+v", l, first, n.all[first:])
	}
}

// P7.3: logs match, whoever leads, whatever is sent, compacted and cut.
func TestLogsMatch(t *testing.T) {
	matched := 0
	for seed := range 400 {
		p := grouped(t, seed)
		for range 250 {
			k, to := p.r.IntN(len(p.nodes)), p.r.IntN(len(p.nodes))
			n := p.nodes[k]
			end, _ := n.g.Last()
			switch p.r.IntN(10) {
			case 0, 1, 2:
				p.lead(k)
			case 3:
				n.g.Compact(p.r.Uint64N(end+2), "state")
			case 4:
				if i := p.r.Uint64N(end + 9); i > n.g.First().Index && i <= end {
					n.g.Cut(i)
					n.all = n.all[:i-1]
				}
			default:
				p.send(t, n, p.nodes[to])
			}
			stands(t, n)
			stands(t, p.nodes[to])
			for _, other := range p.nodes {
				match(t, p.nodes[to], other)
				match(t, n, other)
			}
		}
		if i, x := p.nodes[0].g.Last(); i > 0 {
			if y, e := p.nodes[1].g.Term(i); e == api.OK && x == y {
				matched++
			}
		}
	}
	if matched < 20 {
		t.Fatalf("only %d times do the first log's end and the second one match: the runs say little", matched)
	}
}

// Rule 4: what is handed in stays, the room behind it too, and isn't kept.
func TestHandedInStays(t *testing.T) {
	b := book{api.Snapshot{Config: 7}, entries(0, "a", 1, 1, 2)}
	room := append(slices.Clone(b.l), entries(3, "room", 5, 5, 5, 5)...)
	before := slices.Clone(room)
	g, _ := rlog.New(b.snap, room[:3])
	g.Add(2, 1, "x")
	g.Cut(2)
	g.Add(2, 1, "y")
	if !slices.Equal(room, before) {
		t.Fatalf("what New was handed is %+v, was %+v", room, before)
	}
	g, _ = rlog.New(b.snap, room[:3])
	for k := range room {
		room[k] = api.Entry{Term: 99}
	}
	same(t, g, b)
	come := append(entries(1, "b", 3, 3), entries(3, "room", 5, 5, 5, 5)...)
	before = slices.Clone(come)
	g.Merge(1, 1, come[:2])
	g.Add(3, 1, "z")
	g.Cut(3)
	g.Add(4, 1, "z")
	if !slices.Equal(come, before) {
		t.Fatalf("what Merge was handed is %+v, was %+v", come, before)
	}
	want := book{b.snap, g.Get(1, 9)}
	for k := range come {
		come[k] = api.Entry{Term: 99}
	}
	same(t, g, want)
}

// Rule 4: what is answered is new memory: whoever changes it, or lays more into the room behind it, changes no log and nothing that was handed in.
func TestAnswersAreNew(t *testing.T) {
	b := book{api.Snapshot{Config: 7}, entries(0, "a", 1, 1, 2)}
	g := opened(t, b)
	spoil := func(l []api.Entry) {
		l = l[:cap(l)]
		for k := range l {
			l[k] = api.Entry{Term: 99, Kind: 9}
		}
	}
	for i := range uint64(6) {
		for n := range 5 {
			spoil(g.Get(i, n))
			same(t, g, b)
		}
	}
	come := entries(2, "b", 3, 3, 4)
	before := slices.Clone(come)
	x, _ := g.Merge(2, 1, come)
	b.merge(2, 1, before)
	y := g.Get(3, 3)
	spoil(x)
	if !slices.Equal(come, before) || !slices.Equal(y, before) {
		t.Fatalf("there is %+v, and %+v was handed in", y, come)
	}
	same(t, g, b)
	early := g.Get(1, 9)
	kept := slices.Clone(early)
	g.Cut(2)
	g.Add(7, 1, "x")
	g.Compact(1, "")
	if !slices.Equal(early, kept) {
		t.Fatalf("what was answered is %+v, was %+v", early, kept)
	}
}

// P0: many entries at once, merged, told and compacted.
func TestMany(t *testing.T) {
	const many = 1 << 18
	g := opened(t, book{snap: api.Snapshot{Config: 1}})
	terms := make([]uint64, many)
	for k := range terms {
		terms[k] = uint64(k) / 1000
	}
	l := entries(0, "a", terms...)
	if x, ok := g.Merge(0, 0, l); !ok || len(x) != many {
		t.Fatalf("Merge answers %d, %v", len(x), ok)
	}
	if x, ok := g.Merge(0, 0, l); !ok || len(x) != 0 {
		t.Fatalf("Merge of the same answers %d, %v", len(x), ok)
	}
	if e := g.Compact(many-1, ""); e != api.OK || len(g.Get(many, math.MaxInt)) != 1 {
		t.Fatalf("Compact answers %d", e)
	}
	if x, ok := g.Merge(0, 0, l); !ok || len(x) != 0 || len(g.Get(many, 9)) != 1 {
		t.Fatalf("Merge across the snapshot answers %d, %v", len(x), ok)
	}
}
