package store_test

import (
	"fmt"
	"math"
	"math/rand/v2"
	"reflect"
	"slices"
	"strings"
	"testing"

	"tontine/api"
	"tontine/disk"
	"tontine/store"
	"tontine/wal"
)

// most is the greatest number.
const most uint64 = math.MaxUint64

// half is how many bytes of data an entry may have, and a snapshot that is handed in.
const half = 32768

// num are a number's bytes by the words of layer 3.
func num(x uint64) string {
	var out []byte
	for ; x > 0; x /= 256 {
		out = append([]byte{byte(x % 256)}, out...)
	}
	return string([]byte{byte(len(out))}) + string(out)
}

// text are a text's bytes by the words of layer 3.
func text(s string) string { return num(uint64(len(s))) + s }

// The records, by the chapter's words.
func hardOf(term, vote1 uint64) string { return num(1) + num(term) + num(vote1) }
func entryOf(x api.Entry) string {
	return num(2) + num(x.Term) + num(x.Index) + num(uint64(x.Kind)) + text(x.Data)
}
func cutOf(i uint64) string { return num(3) + num(i) }
func snapOf(s api.Snapshot) string {
	return num(4) + num(s.Index) + num(s.Term) + num(s.Config) + text(s.Data)
}

// takeNum is the number at the front, and what is left; false, if none stands there.
func takeNum(s string) (uint64, string, bool) {
	if s == "" || int(s[0]) > 8 || int(s[0]) > len(s)-1 || s[0] > 0 && s[1] == 0 {
		return 0, "", false
	}
	x := uint64(0)
	for _, c := range []byte(s[1 : 1+s[0]]) {
		x = x*256 + uint64(c)
	}
	return x, s[1+s[0]:], true
}

// parse: a record's first number, as many numbers behind it, and a text, if there is one: just these.
func parse(s string) (what uint64, at []uint64, data string, ok bool) {
	count := map[uint64]int{1: 2, 2: 3, 3: 1, 4: 3}
	if what, s, ok = takeNum(s); !ok || count[what] == 0 {
		return 0, nil, "", false
	}
	for range count[what] {
		var x uint64
		if x, s, ok = takeNum(s); !ok {
			return 0, nil, "", false
		}
		at = append(at, x)
	}
	if what == 2 || what == 4 {
		var n uint64
		if n, s, ok = takeNum(s); !ok || n > uint64(len(s)) || what == 2 && n > 65536 {
			return 0, nil, "", false
		}
		data, s = s[:n], s[n:]
	}
	ok = s == "" && !(what == 1 && at[1] > 7) && !(what == 2 && at[2] > 2)
	return what, at, data, ok
}

// beginning: the state that there is ahead of all records.
func beginning(members uint64) store.State {
	return store.State{Hard: api.Hard{Vote: -1}, Snap: api.Snapshot{Config: members}}
}

// then: what a record makes of a state; false, if it is none.
func then(s store.State, record string) (store.State, bool) {
	what, at, data, ok := parse(record)
	if !ok {
		return s, false
	}
	switch what {
	case 1:
		s.Hard = api.Hard{Term: at[0], Vote: int(at[1]) - 1}
	case 2:
		s.Entries = append(slices.Clone(s.Entries), api.Entry{Term: at[0], Index: at[1], Kind: int(at[2]), Data: data})
	case 3:
		var stay []api.Entry
		for _, x := range s.Entries {
			if x.Index >= at[0] {
				break
			}
			stay = append(stay, x)
		}
		s.Entries = stay
	case 4:
		s.Snap, s.Entries = api.Snapshot{Index: at[0], Term: at[1], Config: at[2], Data: data}, nil
	}
	return s, true
}

// sound tells whether a state is one, by the words of this layer and of layer 7.
func sound(s store.State) bool {
	if s.Hard.Vote < -1 || s.Hard.Vote > 6 || s.Snap.Config < 1 || s.Snap.Config > 127 {
		return false
	}
	ahead, term := s.Snap.Index, s.Snap.Term
	for _, x := range s.Entries {
		if ahead == most || x.Index != ahead+1 || x.Term < term || len(x.Data) > half || x.Kind < 0 || x.Kind > 2 {
			return false
		}
		if x.Kind == 2 && (len(x.Data) != 2 || x.Data[0] != 1 || x.Data[1] < 1 || x.Data[1] > 127) {
			return false
		}
		ahead, term = x.Index, x.Term
	}
	return true
}

// made: what records make of a beginning; false, if one is none, or that is no state in the end.
func made(members uint64, records ...string) (store.State, bool) {
	s := beginning(members)
	for _, r := range records {
		var ok bool
		if s, ok = then(s, r); !ok {
			return store.State{}, false
		}
	}
	return s, sound(s)
}

// saved: what a Save makes of a state, and its records; false, if it is refused.
func saved(s store.State, h api.Hard, l []api.Entry) (store.State, []string, bool) {
	out := store.State{Hard: h, Snap: s.Snap}
	for _, x := range s.Entries {
		if len(l) == 0 || x.Index < l[0].Index {
			out.Entries = append(out.Entries, x)
		}
	}
	out.Entries = append(out.Entries, l...)
	if !sound(out) {
		return s, nil, false
	}
	var records []string
	if h.Term != s.Hard.Term || h.Vote != s.Hard.Vote {
		records = append(records, hardOf(h.Term, uint64(h.Vote+1)))
	}
	if n := len(s.Entries); n > 0 && len(l) > 0 && l[0].Index <= s.Entries[n-1].Index {
		records = append(records, cutOf(l[0].Index))
	}
	for _, x := range l {
		records = append(records, entryOf(x))
	}
	return out, records, true
}

// all: a state's records by Anew.
func all(s store.State) []string {
	out := []string{hardOf(s.Hard.Term, uint64(s.Hard.Vote+1)), snapOf(s.Snap)}
	for _, x := range s.Entries {
		out = append(out, entryOf(x))
	}
	return out
}

// same: two states; an empty list may be nil or not.
func same(a, b store.State) bool {
	return a.Hard == b.Hard && a.Snap == b.Snap && slices.Equal(a.Entries, b.Entries)
}

// show: a state, short.
func show(s store.State) string {
	out := fmt.Sprint(s.Hard, s.Snap.Index, s.Snap.Term, s.Snap.Config, len(s.Snap.Data))
	for _, x := range s.Entries {
		out += fmt.Sprint(" ", x.Term, ".", x.Index, ".", x.Kind, ".", len(x.Data))
	}
	return out
}

// is: fails, if a state is another one.
func is(t *testing.T, what string, got, want store.State) {
	t.Helper()
	if !same(got, want) {
		t.Fatalf("%s: %s, not %s", what, show(got), show(want))
	}
}

// answers: fails, if an error is another one.
func answers(t *testing.T, what string, got, want api.Errno) {
	t.Helper()
	if got != want {
		t.Fatalf("%s: %v, not %v", what, got, want)
	}
}

// room: an empty disk.
func room(n int) *disk.Disk {
	d, e := disk.New(n)
	if e != api.OK {
		panic(e)
	}
	return d
}

// laid: a disk whose file 0 has these records.
func laid(t *testing.T, records ...string) *disk.Disk {
	t.Helper()
	d, s := room(api.MaxDisk), ""
	for _, r := range records {
		s += wal.Frame(r)
	}
	answers(t, "Replace", d.Replace(0, s), api.OK)
	return d
}

// begun: a store of file 0 of a disk.
func begun(t *testing.T, d *disk.Disk, members uint64) *store.Store {
	t.Helper()
	s, x, e := store.Open(d, 0, members)
	answers(t, "Open", e, api.OK)
	if s == nil {
		t.Fatal("no store")
	}
	is(t, "State behind Open", s.State(), x)
	return s
}

// with: a store that has a state, on a disk of its own.
func with(t *testing.T, x store.State) (*store.Store, *disk.Disk) {
	t.Helper()
	d := laid(t, all(x)...)
	s := begun(t, d, 1)
	is(t, "State", s.State(), x)
	return s, d
}

// bytesOf: all of a file, off or not (a crash that keeps all leaves that).
func bytesOf(d *disk.Disk, n int) string {
	s, _ := d.Crash(slices.Repeat([]int{api.MaxDisk}, api.MaxFiles)).Read(n)
	return s
}

// recordsOf: those of file 0.
func recordsOf(d *disk.Disk) []string {
	l, _ := wal.Scan(bytesOf(d, 0))
	return l
}

// refused: fails, if Open answers another error, or anything beside it.
func refused(t *testing.T, what string, d *disk.Disk, n int, members uint64, want api.Errno) {
	t.Helper()
	s, x, e := store.Open(d, n, members)
	answers(t, what, e, want)
	if s != nil || !reflect.DeepEqual(x, store.State{}) {
		t.Fatal(what, "answers more than an error:", x)
	}
}

// none, command and config are entries.
func none(term, index uint64) api.Entry { return api.Entry{Term: term, Index: index} }
func command(term, index uint64, data string) api.Entry {
	return api.Entry{Term: term, Index: index, Kind: api.EntryCommand, Data: data}
}
func config(term, index uint64, set byte) api.Entry {
	return api.Entry{Term: term, Index: index, Kind: api.EntryConfig, Data: string([]byte{1, set})}
}

// draws: numbers that are the same in each run.
func draws(seed int) *rand.Rand { return rand.New(rand.NewPCG(uint64(seed), 8)) }

// P8.1: the chapter's examples.
func TestExamples(t *testing.T) {
	d := room(1000)
	s := begun(t, d, 7)
	h := api.Hard{Term: 3, Vote: 1}
	answers(t, "the first Save", s.Save(h, []api.Entry{none(3, 1)}), api.OK)
	want := []string{"\x01\x01\x01\x03\x01\x02", "\x01\x02\x01\x03\x01\x01\x00\x00"}
	if got := recordsOf(d); !slices.Equal(got, want) {
		t.Fatalf("%q", got)
	}
	answers(t, "the second Save", s.Save(h, []api.Entry{command(3, 1, "x")}), api.OK)
	want = append(want, "\x01\x03\x01\x01", "\x01\x02\x01\x03\x01\x01\x01\x01\x01\x01x")
	if got := recordsOf(d); !slices.Equal(got, want) {
		t.Fatalf("%q", got)
	}
}

// P8.1: a file that isn't there, or has nothing, says the beginning, of any sound set.
func TestOpenBeginning(t *testing.T) {
	for members := uint64(1); members < 128; members++ {
		for n := range api.MaxFiles {
			d := room(0)
			s, x, e := store.Open(d, n, members)
			answers(t, "Open", e, api.OK)
			is(t, "the beginning", x, beginning(members))
			is(t, "State", s.State(), beginning(members))
			if got := d.Files(); !slices.Equal(got, []int{n}) || d.Used() != 0 {
				t.Fatal("files:", got, d.Used())
			}
			_, x, e = store.Open(d.Crash(nil), n, members^127|1)
			answers(t, "Open again", e, api.OK)
			is(t, "the beginning of other members", x, beginning(members^127|1))
		}
	}
}

// P8.1, rules 1 and 2: Open's errors, in their order, and nothing beside them.
func TestOpenErrors(t *testing.T) {
	bad := laid(t, "\x01\x09")
	off := laid(t, "\x01\x09")
	off.Fuel(0)
	off.Sync(0)
	for _, members := range []uint64{0, 128, 129, 255, 1 << 63, most} {
		refused(t, "members that aren't sound", room(9), 0, members, api.ErrArg)
		refused(t, "members that aren't sound, a bad file", bad, 0, members, api.ErrArg)
		refused(t, "members that aren't sound, a disk that is off", off, 0, members, api.ErrArg)
		refused(t, "members that aren't sound, no disk", nil, 0, members, api.ErrArg)
	}
	for _, n := range []int{-1, 16, math.MinInt, math.MaxInt} {
		refused(t, "no file's number", room(9), n, 7, api.ErrArg)
		refused(t, "no file's number, no disk", nil, n, 7, api.ErrArg)
		refused(t, "no file's number, a disk that is off", off, n, 7, api.ErrArg)
	}
	refused(t, "no disk", nil, 0, 7, api.ErrDown)
	refused(t, "a disk that is off", off, 0, 7, api.ErrDown)
	refused(t, "no fuel and a bad file", withFuel(laid(t, "\x01\x09"), 0), 0, 7, api.ErrDown)
	refused(t, "no fuel and a good file", withFuel(laid(t, cutOf(1)), 0), 0, 7, api.ErrDown)
	refused(t, "no fuel and no file", withFuel(room(9), 0), 0, 7, api.ErrDown)
	refused(t, "a bad file", bad, 0, 7, api.ErrForm)
	if _, _, e := store.Open(bad, 1, 7); e != api.OK {
		t.Fatal("another file of that disk:", e)
	}
}

func withFuel(d *disk.Disk, n int) *disk.Disk {
	d.Fuel(n)
	return d
}

// P0, P8.1, rule 3: members that aren't sound are told ahead of all that Open does to a disk.
func TestOpenRefusedAhead(t *testing.T) {
	d := room(99)
	refused(t, "no sound members", d, 3, 0, api.ErrArg)
	if len(d.Files()) != 0 {
		t.Fatal("a file was made")
	}
	answers(t, "Append", d.Append(3, "no frame"), api.OK)
	refused(t, "no sound members", d, 3, 128, api.ErrArg)
	if bytesOf(d, 3) != "no frame" {
		t.Fatal("the file was changed")
	}
}

// P8.1: what stands behind the last frame plays no part, and is gone.
func TestOpenCutsOff(t *testing.T) {
	whole := wal.Frame(hardOf(5, 3)) + wal.Frame(entryOf(none(5, 1)))
	for _, tail := range []string{"\x00", "abc", wal.Frame(cutOf(1))[1:], wal.Frame("\x01\x09")[1:], "\x05" + wal.Frame(cutOf(1))} {
		d := room(999)
		d.Append(0, whole+tail)
		s := begun(t, d, 1)
		is(t, "State", s.State(), store.State{Hard: api.Hard{Term: 5, Vote: 2}, Snap: api.Snapshot{Config: 1}, Entries: []api.Entry{none(5, 1)}})
		if bytesOf(d, 0) != whole {
			t.Fatalf("%q is left", bytesOf(d, 0))
		}
	}
}

// P8.1: each kind of record is read, its least and greatest numbers too.
func TestOpenEachRecord(t *testing.T) {
	first := beginning(5)
	hard := func(term uint64, vote int) store.State {
		s := first
		s.Hard = api.Hard{Term: term, Vote: vote}
		return s
	}
	for vote := -1; vote < 7; vote++ {
		for _, term := range []uint64{0, 1, 255, 256, 1 << 32, most} {
			opens(t, "a hard state", hard(term, vote), hardOf(term, uint64(vote+1)))
		}
	}
	opens(t, "the last hard state counts", hard(1, 0), hardOf(9, 5), hardOf(1, 1))
	for _, x := range []api.Entry{none(0, 1), none(most, 1), command(0, 1, ""), command(3, 1, "\x00a\xff"), config(1, 1, 1), config(1, 1, 127), command(1, 1, strings.Repeat("\x00", half))} {
		s := first
		s.Entries = []api.Entry{x}
		opens(t, "an entry", s, entryOf(x))
	}
	for _, p := range []api.Snapshot{{Config: 1}, {Index: most, Term: most, Config: 127, Data: "\x00\xff"}, {Index: 7, Config: 3, Data: strings.Repeat("s", half+1)}, {Config: 2, Data: strings.Repeat("\x00", 65536-10)}} {
		s := first
		s.Snap = p
		opens(t, "a snapshot", s, snapOf(p))
		opens(t, "a snapshot takes entries", s, entryOf(none(1, 1)), snapOf(p))
	}
	opens(t, "a cut of nothing", first, cutOf(0))
	opens(t, "a cut of nothing", first, cutOf(most))
}

// opens: fails, if Open of a file of these records, and members 5, answers another state.
func opens(t *testing.T, what string, want store.State, records ...string) {
	t.Helper()
	_, x, e := store.Open(laid(t, records...), 0, 5)
	answers(t, what, e, api.OK)
	is(t, what, x, want)
}

// P8.1: a record that isn't one of the four to the byte is none.
func TestOpenRefusesRecords(t *testing.T) {
	x := command(3, 1, "ab")
	good := []string{hardOf(3, 2), entryOf(x), cutOf(300), snapOf(api.Snapshot{Index: 300, Term: 2, Config: 7, Data: "snap"})}
	bad := []string{"", "\x00", num(5) + num(1), num(0) + num(1) + num(1), num(256+1) + num(1) + num(1), num(most) + num(1) + num(1),
		hardOf(3, 8), hardOf(3, 9), hardOf(3, 255), hardOf(3, most), hardOf(3, 1<<32),
		num(2) + num(3) + num(1) + num(3) + text(""), num(2) + num(3) + num(1) + num(most) + text(""), num(2) + num(3) + num(1) + num(256) + text(""),
		num(2) + num(3) + num(1) + num(1) + num(3) + "ab", num(2) + num(3) + num(1) + num(1) + num(most) + "ab",
		num(4) + num(3) + num(1) + num(1) + num(3) + "ab", num(4) + num(3) + num(1) + num(1) + num(most) + "ab",
		"\x02\x00\x01\x01\x01\x01\x01", "\x01\x01\x02\x00\x01\x01\x01", "\x01\x01\x09\x01\x01\x01\x01\x01\x01\x01\x01\x01\x01\x01"}
	for _, g := range good {
		for n := range len(g) {
			bad = append(bad, g[:n])
		}
		bad = append(bad, g+"\x00", g+"\x01", g+"\x01\x01", g+g)
	}
	for _, b := range bad {
		refused(t, fmt.Sprintf("%q", b), laid(t, b), 0, 5, api.ErrForm)
		refused(t, fmt.Sprintf("%q behind one", b), laid(t, cutOf(1), b), 0, 5, api.ErrForm)
		refused(t, fmt.Sprintf("%q ahead of one", b), laid(t, b, snapOf(api.Snapshot{Config: 1})), 0, 5, api.ErrForm)
	}
}

// P8.1: records that make no state in the end are refused; on the way they may.
func TestOpenInTheEnd(t *testing.T) {
	snap := api.Snapshot{Index: 5, Term: 2, Config: 7}
	long := command(1, 1, strings.Repeat("x", half+1))
	bad := [][]string{
		{entryOf(none(1, 0))}, {entryOf(none(1, 2))}, {entryOf(none(1, most))},
		{entryOf(none(1, 1)), entryOf(none(1, 1))}, {entryOf(none(1, 1)), entryOf(none(1, 3))}, {entryOf(none(2, 1)), entryOf(none(1, 2))},
		{entryOf(config(1, 1, 0))}, {entryOf(config(1, 1, 128))}, {entryOf(api.Entry{Term: 1, Index: 1, Kind: 2})}, {entryOf(api.Entry{Term: 1, Index: 1, Kind: 2, Data: "\x01\x01\x00"})},
		{entryOf(long)},
		{snapOf(api.Snapshot{})}, {snapOf(api.Snapshot{Config: 128})}, {snapOf(api.Snapshot{Config: most})},
		{snapOf(snap), entryOf(none(2, 5))}, {snapOf(snap), entryOf(none(2, 7))}, {snapOf(snap), entryOf(none(1, 6))}, {snapOf(snap), entryOf(none(2, 1))},
		{snapOf(api.Snapshot{Index: most, Term: 1, Config: 1}), entryOf(none(1, 0))},
	}
	for _, l := range bad {
		refused(t, fmt.Sprintf("%.40q", l), laid(t, l...), 0, 5, api.ErrForm)
		healed := append(slices.Clone(l), snapOf(snap), entryOf(none(2, 6)))
		opens(t, fmt.Sprintf("%.40q, and a snapshot", l), store.State{Hard: api.Hard{Vote: -1}, Snap: snap, Entries: []api.Entry{none(2, 6)}}, healed...)
	}
	opens(t, "a bad entry that is cut", beginning(5), entryOf(none(1, 2)), cutOf(2))
	opens(t, "a long entry that is cut", beginning(5), entryOf(long), cutOf(0))
	opens(t, "entries that stand wildly: all from the first one on", store.State{Hard: api.Hard{Vote: -1}, Snap: api.Snapshot{Config: 5}, Entries: []api.Entry{none(1, 1)}},
		entryOf(none(1, 1)), entryOf(none(1, 9)), entryOf(none(1, 2)), entryOf(none(7, 3)), cutOf(4))
	refused(t, "a cut that leaves a bad one", laid(t, entryOf(none(1, 2)), cutOf(3)), 0, 5, api.ErrForm)
}

// P8.1: Open of all short lists of records, against the words.
func TestOpenAllShort(t *testing.T) {
	records := []string{hardOf(2, 0), hardOf(1, 7), hardOf(1, 8),
		entryOf(none(1, 1)), entryOf(command(2, 2, "b")), entryOf(none(2, 3)), entryOf(config(1, 3, 3)), entryOf(none(0, 1)),
		cutOf(0), cutOf(2), cutOf(3),
		snapOf(api.Snapshot{Index: 1, Term: 2, Config: 3, Data: "s"}), snapOf(api.Snapshot{Index: 2, Config: 0})}
	lists := [][]string{nil}
	good, bad := 0, 0
	for n := 0; n <= 4; n++ {
		var next [][]string
		for _, l := range lists {
			want, ok := made(5, l...)
			d := laid(t, l...)
			_, x, e := store.Open(d, 0, 5)
			if ok != (e == api.OK) || !ok && e != api.ErrForm || !same(x, want) && ok {
				t.Fatalf("%q: %v %s, not %v %s", l, e, show(x), ok, show(want))
			}
			if ok {
				good++
			} else {
				bad++
			}
			for _, r := range records {
				next = append(next, append(slices.Clone(l), r))
			}
		}
		lists = next
	}
	if good < 1000 || bad < 1000 {
		t.Fatal("too few of one sort:", good, bad)
	}
}

// P8.1, P0: Open of records that were bent, and of any bytes, against the words.
func TestOpenAnyBytes(t *testing.T) {
	r := draws(1)
	good := 0
	for range 30000 {
		var l []string
		for range 1 + r.IntN(3) {
			record := anyRecord(r)
			if r.IntN(3) == 0 {
				record = bent(r, record)
			}
			l = append(l, record)
		}
		want, ok := made(5, l...)
		_, x, e := store.Open(laid(t, l...), 0, 5)
		if ok != (e == api.OK) || !ok && e != api.ErrForm || ok && !same(x, want) {
			t.Fatalf("%q: %v %s, not %v %s", l, e, show(x), ok, show(want))
		}
		if ok {
			good++
		}
	}
	if good < 3000 || good > 27000 {
		t.Fatal("good:", good)
	}
}

// anyRecord: one that is mostly good.
func anyRecord(r *rand.Rand) string {
	index := uint64(1 + r.IntN(3))
	switch r.IntN(5) {
	case 0:
		return hardOf(r.Uint64()>>r.IntN(64), uint64(r.IntN(9)))
	case 1:
		return cutOf(uint64(r.IntN(5)))
	case 2:
		return snapOf(api.Snapshot{Index: index - 1, Term: uint64(r.IntN(2)), Config: uint64(r.IntN(9)), Data: strings.Repeat("d", r.IntN(3))})
	}
	return entryOf(api.Entry{Term: 1 + uint64(r.IntN(2)), Index: index, Kind: r.IntN(2), Data: strings.Repeat("e", r.IntN(300))})
}

// bent: some of its bytes are others, gone, or new.
func bent(r *rand.Rand, s string) string {
	b := []byte(s)
	for range 1 + r.IntN(2) {
		i := 0
		if len(b) > 0 {
			i = r.IntN(min(len(b), 12))
		}
		switch k := r.IntN(3); {
		case k == 0 || len(b) == 0:
			b = slices.Insert(b, i, byte(r.IntN(5)))
		case k == 1:
			b = slices.Delete(b, i, i+1)
		default:
			b[i] = byte(r.IntN(10))
		}
	}
	return string(b)
}

// someStates are small ones of many sorts.
func someStates() []store.State {
	var out []store.State
	for _, snap := range []api.Snapshot{{Config: 7}, {Index: 2, Term: 1, Config: 1, Data: "s"}, {Index: most - 2, Term: 1, Config: 127}} {
		i := snap.Index
		for _, l := range [][]api.Entry{nil, {none(1, i+1)}, {command(1, i+1, "a"), none(2, i+2)}, {none(2, i+1), config(2, i+2, 3)}} {
			out = append(out, store.State{Hard: api.Hard{Term: 2, Vote: 1}, Snap: snap, Entries: l})
		}
	}
	return out
}

// someHards are hard states, good ones and others.
func someHards() []api.Hard {
	return []api.Hard{{Term: 2, Vote: 1}, {Term: 2, Vote: -1}, {Term: 3, Vote: 1}, {Vote: 6}, {Term: most}, {Term: 2, Vote: 7}, {Term: 2, Vote: -2}, {Term: 2, Vote: math.MaxInt}, {Term: 2, Vote: math.MinInt}}
}

// someLists are lists of entries about an index: all of one and two of a small choice, and none.
func someLists(i uint64) [][]api.Entry {
	var one []api.Entry
	for at := i - 2; at != i+5; at++ {
		for term := uint64(0); term < 4; term++ {
			one = append(one, none(term, at))
		}
		one = append(one, command(2, at, "c"), config(2, at, 3), config(2, at, 0), config(2, at, 128), api.Entry{Term: 2, Index: at, Kind: 3}, api.Entry{Term: 2, Index: at, Kind: -1}, api.Entry{Term: 2, Index: at, Kind: 2})
	}
	out := [][]api.Entry{nil, {}}
	for _, x := range one {
		out = append(out, []api.Entry{x})
	}
	for _, x := range one {
		for _, y := range one {
			if y.Index-x.Index <= 2 && x.Kind >= 0 && x.Kind < 2 {
				out = append(out, []api.Entry{x, y})
			}
		}
	}
	return out
}

// P8.1, rules 3 and 4: Save of all small lists to many states, against the words: its error, its records, and the state.
func TestSaveAllSmall(t *testing.T) {
	ok, no := 0, 0
	for _, from := range someStates() {
		for _, h := range someHards() {
			for k, l := range someLists(from.Snap.Index) {
				if h != from.Hard && k%7 != 0 && len(l) == 2 {
					continue
				}
				want, records, can := saved(from, h, l)
				if !can && k%5 != 0 {
					continue
				}
				s, d := with(t, from)
				before := bytesOf(d, 0)
				handed := slices.Clone(l)
				e := s.Save(h, l)
				what := fmt.Sprint("Save ", h, l, " of ", show(from))
				if can {
					answers(t, what, e, api.OK)
					ok++
				} else {
					answers(t, what, e, api.ErrArg)
					no++
				}
				is(t, what, s.State(), want)
				if got := bytesOf(d, 0); !strings.HasPrefix(got, before) || !slices.Equal(recordsOf(d), append(all(from), records...)) {
					t.Fatalf("%s: the file has %q", what, recordsOf(d))
				}
				if !slices.Equal(l, handed) {
					t.Fatal(what, ": what was handed in was changed")
				}
			}
		}
	}
	if ok < 500 || no < 500 {
		t.Fatal("too few of one sort:", ok, no)
	}
}

// P8.1: an entry's data has at most half a record's bytes; lists of any length are saved.
func TestSaveLimits(t *testing.T) {
	s, d := with(t, beginning(3))
	h := api.Hard{Vote: -1}
	full := command(1, 1, strings.Repeat("\x00", half))
	answers(t, "data that is too long", s.Save(h, []api.Entry{command(1, 1, full.Data+"x")}), api.ErrArg)
	answers(t, "much too long", s.Save(h, []api.Entry{command(1, 1, strings.Repeat("x", 1<<17))}), api.ErrArg)
	answers(t, "a second one that is too long", s.Save(h, []api.Entry{none(1, 1), command(1, 2, full.Data+"x")}), api.ErrArg)
	answers(t, "the longest", s.Save(h, []api.Entry{full}), api.OK)
	is(t, "State", s.State(), store.State{Hard: h, Snap: api.Snapshot{Config: 3}, Entries: []api.Entry{full}})
	var l []api.Entry
	for i := range uint64(20000) {
		l = append(l, none(1+i/1000, i+1))
	}
	answers(t, "many", s.Save(h, l), api.OK)
	is(t, "State", s.State(), store.State{Hard: h, Snap: api.Snapshot{Config: 3}, Entries: l})
	_, x, e := store.Open(d.Crash(nil), 0, 3)
	answers(t, "Open", e, api.OK)
	is(t, "many, opened", x, s.State())
}

// P8.1: of nothing new there is no record and no step: OK, even of a disk that is off.
func TestSaveNothing(t *testing.T) {
	for _, from := range someStates() {
		s, d := with(t, from)
		before := bytesOf(d, 0)
		d.Fuel(0)
		for range 2 {
			answers(t, "nothing new", s.Save(from.Hard, nil), api.OK)
			answers(t, "nothing new", s.Save(from.Hard, []api.Entry{}), api.OK)
			if d.Sync(0) != api.ErrDown {
				t.Fatal("the disk isn't off")
			}
		}
		is(t, "State", s.State(), from)
		if bytesOf(d, 0) != before {
			t.Fatal("the file was changed")
		}
		answers(t, "something new", s.Save(api.Hard{Term: 9, Vote: -1}, nil), api.ErrDown)
		is(t, "State", s.State(), from)
		answers(t, "something wrong", s.Save(api.Hard{Vote: 7}, nil), api.ErrArg)
	}
}

// P8.1: a Save takes two steps, an Anew one; whatever is refused takes none.
func TestSteps(t *testing.T) {
	s, d := with(t, beginning(1))
	d.Fuel(3)
	answers(t, "a bad Save", s.Save(api.Hard{Vote: 7}, nil), api.ErrArg)
	answers(t, "a bad Anew", s.Anew(store.State{}), api.ErrArg)
	answers(t, "Save", s.Save(api.Hard{Term: 1, Vote: 1}, []api.Entry{none(1, 1), none(1, 2)}), api.OK)
	answers(t, "Anew", s.Anew(beginning(2)), api.OK)
	answers(t, "one more", s.Anew(beginning(2)), api.ErrDown)
}

// P8.1, rule 3: without room nothing is done, and the store goes on.
func TestFull(t *testing.T) {
	h := api.Hard{Term: 1, Vote: -1}
	l := []api.Entry{none(1, 1), none(1, 2)}
	_, records, _ := saved(beginning(7), h, l)
	size := len(wal.Frame(records[0]) + wal.Frame(records[1]) + wal.Frame(records[2]))
	for less := range 3 {
		d := room(size - less)
		s := begun(t, d, 7)
		want := api.OK
		if less > 0 {
			want = api.ErrFull
		}
		answers(t, "Save", s.Save(h, l), want)
		if less > 0 {
			is(t, "State", s.State(), beginning(7))
			answers(t, "a shorter Save", s.Save(h, nil), api.OK)
			is(t, "State", s.State(), store.State{Hard: h, Snap: api.Snapshot{Config: 7}})
			answers(t, "Anew without room", s.Anew(store.State{Hard: h, Snap: api.Snapshot{Config: 7}, Entries: l}), api.ErrFull)
			is(t, "State", s.State(), store.State{Hard: h, Snap: api.Snapshot{Config: 7}})
		}
		_, x, e := store.Open(d.Crash(nil), 0, 7)
		answers(t, "Open", e, api.OK)
		is(t, "opened", x, s.State())
	}
}

// P8.1: Anew lays all of a state, whatever was there.
func TestAnew(t *testing.T) {
	for _, from := range someStates() {
		for _, to := range append(someStates(), from, beginning(1), store.State{Snap: api.Snapshot{Config: 1}}) {
			s, d := with(t, from)
			answers(t, "Anew", s.Anew(to), api.OK)
			is(t, "State", s.State(), to)
			if !slices.Equal(recordsOf(d), all(to)) {
				t.Fatalf("%q", recordsOf(d))
			}
			_, x, e := store.Open(d.Crash(nil), 0, 64)
			answers(t, "Open", e, api.OK)
			is(t, "opened", x, to)
		}
	}
}

// P8.1, rule 3: Anew of what is no state, or of too long a snapshot, is refused ahead of the disk's errors.
func TestAnewRefuses(t *testing.T) {
	good := store.State{Hard: api.Hard{Term: 2, Vote: 0}, Snap: api.Snapshot{Index: 3, Term: 2, Config: 7}, Entries: []api.Entry{none(2, 4)}}
	var bad []store.State
	for _, vote := range []int{-2, 7, math.MaxInt, math.MinInt} {
		x := good
		x.Hard.Vote = vote
		bad = append(bad, x)
	}
	for _, set := range []uint64{0, 128, most} {
		x := good
		x.Snap.Config = set
		bad = append(bad, x)
	}
	for _, e := range []api.Entry{none(2, 3), none(2, 5), none(1, 4), {Term: 2, Index: 4, Kind: 3}, {Term: 2, Index: 4, Kind: -1}, config(2, 4, 0), command(2, 4, strings.Repeat("x", half+1))} {
		x := good
		x.Entries = []api.Entry{e}
		bad = append(bad, x)
	}
	long := good
	long.Snap.Data = strings.Repeat("\x00", half+1)
	bad = append(bad, long, store.State{})
	s, d := with(t, good)
	before := bytesOf(d, 0)
	off, gone := with(t, good)
	gone.Fuel(0)
	gone.Sync(0)
	for _, x := range bad {
		answers(t, "Anew "+show(x), s.Anew(x), api.ErrArg)
		answers(t, "Anew on a disk that is off", off.Anew(x), api.ErrArg)
		is(t, "State", s.State(), good)
	}
	if bytesOf(d, 0) != before {
		t.Fatal("the file was changed")
	}
	answers(t, "Anew on a disk that is off", off.Anew(good), api.ErrDown)
	long.Snap.Data = long.Snap.Data[:half]
	answers(t, "the longest snapshot", s.Anew(long), api.OK)
	_, x, e := store.Open(d.Crash(nil), 0, 64)
	answers(t, "Open", e, api.OK)
	is(t, "the longest snapshot, opened", x, long)
}

// P8.1: a snapshot's record may have more data than Anew takes; the store of it goes on.
func TestLongSnapshot(t *testing.T) {
	from := store.State{Hard: api.Hard{Term: 1, Vote: 0}, Snap: api.Snapshot{Index: 1, Term: 1, Config: 3, Data: strings.Repeat("x", 65536-20)}}
	s, d := with(t, from)
	answers(t, "Anew of it", s.Anew(s.State()), api.ErrArg)
	answers(t, "Save", s.Save(from.Hard, []api.Entry{none(1, 2)}), api.OK)
	from.Entries = []api.Entry{none(1, 2)}
	is(t, "State", s.State(), from)
	_, x, e := store.Open(d.Crash(nil), 0, 3)
	answers(t, "Open", e, api.OK)
	is(t, "opened", x, from)
}

// P8.1, rule 7: of a nil store: ErrDown, whatever is handed in, and the zero state.
func TestNil(t *testing.T) {
	var s *store.Store
	answers(t, "Save", s.Save(api.Hard{Vote: -1}, nil), api.ErrDown)
	answers(t, "a bad Save", s.Save(api.Hard{Vote: 9}, []api.Entry{none(0, 0)}), api.ErrDown)
	answers(t, "Anew", s.Anew(beginning(1)), api.ErrDown)
	answers(t, "a bad Anew", s.Anew(store.State{}), api.ErrDown)
	if !reflect.DeepEqual(s.State(), store.State{}) {
		t.Fatal(s.State())
	}
}

// P0: no call of a store that nobody opened panics.
func TestUnmade(t *testing.T) {
	s := new(store.Store)
	s.Save(api.Hard{}, nil)
	s.Save(api.Hard{Term: 1, Vote: -1}, []api.Entry{none(1, 1)})
	s.State()
	s.Anew(beginning(1))
	s.Save(api.Hard{Term: 1, Vote: -1}, []api.Entry{none(1, 1)})
	s.State()
}

// Rule 4: what was handed in and what was answered is the caller's: what it does to these changes no store.
func TestApart(t *testing.T) {
	from := store.State{Hard: api.Hard{Term: 1, Vote: 0}, Snap: api.Snapshot{Config: 3}, Entries: []api.Entry{none(1, 1), none(1, 2)}}
	spoil := func(l []api.Entry) {
		l = l[:cap(l)]
		for i := range l {
			l[i] = none(9, 9)
		}
	}
	d := laid(t, all(from)...)
	s, x, _ := store.Open(d, 0, 3)
	spoil(x.Entries)
	is(t, "what Open answered", s.State(), from)
	spoil(s.State().Entries)
	is(t, "what State answered", s.State(), from)
	l := append(make([]api.Entry, 0, 9), none(1, 2), none(2, 3))
	answers(t, "Save", s.Save(from.Hard, l), api.OK)
	if got := l[:9]; got[2] != (api.Entry{}) {
		t.Fatal("the room behind the list was changed")
	}
	kept := s.State()
	spoil(l)
	want := store.State{Hard: from.Hard, Snap: from.Snap, Entries: []api.Entry{none(1, 1), none(1, 2), none(2, 3)}}
	is(t, "what Save was handed", s.State(), want)
	answers(t, "Save", s.Save(from.Hard, []api.Entry{command(5, 1, "new")}), api.OK)
	is(t, "what State answered ahead of a Save", kept, want)
	y := store.State{Hard: from.Hard, Snap: from.Snap, Entries: append(make([]api.Entry, 0, 9), none(4, 1))}
	answers(t, "Anew", s.Anew(y), api.OK)
	answers(t, "Save", s.Save(from.Hard, []api.Entry{none(4, 2)}), api.OK)
	if got := y.Entries[:9]; got[1] != (api.Entry{}) {
		t.Fatal("the room behind Anew's list was changed")
	}
	spoil(y.Entries)
	is(t, "what Anew was handed", s.State(), store.State{Hard: from.Hard, Snap: from.Snap, Entries: []api.Entry{none(4, 1), none(4, 2)}})
}

// Rule 8: two stores on two files of a disk don't know each other.
func TestTwoFiles(t *testing.T) {
	d := room(9999)
	a, _, _ := store.Open(d, 3, 1)
	b, _, _ := store.Open(d, 15, 2)
	answers(t, "Save", a.Save(api.Hard{Term: 1, Vote: 3}, []api.Entry{none(1, 1)}), api.OK)
	answers(t, "Anew", b.Anew(store.State{Hard: api.Hard{Term: 8, Vote: 6}, Snap: api.Snapshot{Index: 4, Config: 9}}), api.OK)
	for n, want := range map[int]*store.Store{3: a, 15: b} {
		_, x, e := store.Open(d.Crash(nil), n, 127)
		answers(t, "Open", e, api.OK)
		if n == 3 {
			x.Snap.Config = 1 // no record says it
		}
		is(t, "opened", x, want.State())
	}
}

// P8.2: of a Save that the disk broke off at any step and any byte some first records are there; behind one that was answered with OK all.
func TestCrashAtAnyByte(t *testing.T) {
	for _, from := range someStates() {
		i := from.Snap.Index
		for _, l := range [][]api.Entry{nil, {none(3, i+1)}, {command(3, i+1, "x"), config(3, i+2, 5)}, {none(3, i+2)}} {
			h := api.Hard{Term: 3, Vote: 5}
			if _, _, can := saved(from, h, l); !can {
				continue
			}
			for fuel := range 3 {
				crashEach(t, from, fuel, h, l)
			}
		}
	}
}

// crashEach: a Save with so much fuel, and a crash behind it that keeps so many bytes, for each number of them.
func crashEach(t *testing.T, from store.State, fuel int, h api.Hard, l []api.Entry) {
	t.Helper()
	s, d := with(t, from)
	before := len(bytesOf(d, 0))
	d.Fuel(fuel)
	want, records, _ := saved(from, h, l)
	e := s.Save(h, l)
	if (e == api.OK) != (fuel == 2) || e != api.OK && e != api.ErrDown {
		t.Fatal("Save:", e, "with fuel", fuel)
	}
	if e != api.OK {
		is(t, "State behind a Save that failed", s.State(), from)
	} else {
		is(t, "State", s.State(), want)
	}
	seen := map[int]bool{}
	for keep := 0; keep <= len(bytesOf(d, 0))-before+1; keep++ {
		_, x, e := store.Open(d.Crash([]int{keep}), 0, 64)
		answers(t, "Open", e, api.OK)
		if fuel == 2 {
			is(t, "behind OK", x, want)
			continue
		}
		n, some := 0, from
		for fuel > 0 && n < len(records) && sizeOf(records[:n+1]) <= keep {
			some, _ = then(some, records[n])
			n++
		}
		is(t, fmt.Sprint("behind ", keep, " bytes"), x, some)
		seen[n] = true
	}
	if fuel == 1 && len(seen) != len(records)+1 {
		t.Fatal("not all first records were seen:", seen)
	}
}

// sizeOf: how many bytes the frames of records have.
func sizeOf(records []string) int {
	n := 0
	for _, r := range records {
		n += len(wal.Frame(r))
	}
	return n
}

// P8.2: an Anew that the disk broke off isn't done at all.
func TestAnewWhollyOrNot(t *testing.T) {
	for _, from := range someStates() {
		for _, to := range someStates() {
			s, d := with(t, from)
			d.Fuel(0)
			answers(t, "Anew", s.Anew(to), api.ErrDown)
			is(t, "State", s.State(), from)
			_, x, e := store.Open(d.Crash([]int{api.MaxDisk}), 0, 64)
			answers(t, "Open", e, api.OK)
			is(t, "opened", x, from)
		}
	}
}

// P8.1, P8.2: long runs of Saves, Anews, bad calls and crashes, against the words.
func TestRuns(t *testing.T) {
	for seed := range 150 {
		r := draws(100 + seed)
		d := room(3000)
		s := begun(t, d, 7)
		now := s.State()
		is(t, "the beginning", now, beginning(7))
		for range 80 {
			if r.IntN(12) == 0 {
				d.Fuel(r.IntN(5))
			}
			if r.IntN(10) == 0 {
				now = anewDrawn(t, r, s, now)
				continue
			}
			h, l := drawnHard(r, now.Hard), drawnEntries(r, now)
			want, records, can := saved(now, h, l)
			e := s.Save(h, l)
			switch {
			case !can:
				answers(t, "a bad Save", e, api.ErrArg)
			case e == api.OK:
				now = want
			case e != api.ErrFull && e != api.ErrDown:
				t.Fatal("Save:", e)
			case len(records) == 0:
				t.Fatal("Save of nothing:", e)
			}
			is(t, "State", s.State(), now)
			if d.Off() || r.IntN(15) == 0 {
				may := []store.State{now}
				if e != api.OK && can {
					for _, record := range records {
						next, _ := then(may[len(may)-1], record)
						may = append(may, next)
					}
				}
				d = d.Crash([]int{r.IntN(60)})
				s, now = fallen(t, d, may)
			}
		}
	}
}

// anewDrawn: an Anew of the state that is there, or a shorter one; the state behind it.
func anewDrawn(t *testing.T, r *rand.Rand, s *store.Store, now store.State) store.State {
	t.Helper()
	to := now
	if n := len(now.Entries); n > 0 {
		k := r.IntN(n)
		to.Snap = api.Snapshot{Index: now.Entries[k].Index, Term: now.Entries[k].Term, Config: 1 + uint64(r.IntN(127)), Data: strings.Repeat("d", r.IntN(40))}
		to.Entries = now.Entries[k+1:]
	}
	switch e := s.Anew(to); e {
	case api.OK:
		now = to
	case api.ErrFull, api.ErrDown:
	default:
		t.Fatal("Anew:", e)
	}
	is(t, "State behind Anew", s.State(), now)
	return now
}

func drawnHard(r *rand.Rand, h api.Hard) api.Hard {
	switch r.IntN(6) {
	case 0:
		return api.Hard{Term: h.Term + uint64(r.IntN(3)), Vote: r.IntN(8) - 1}
	case 1:
		return api.Hard{Term: h.Term, Vote: r.IntN(10) - 2}
	}
	return h
}

// drawnEntries: mostly such as may be saved.
func drawnEntries(r *rand.Rand, s store.State) []api.Entry {
	k := len(s.Entries)
	if k > 0 && r.IntN(3) == 0 {
		k = r.IntN(k)
	}
	at, term := s.Snap.Index, s.Snap.Term
	if k > 0 {
		at, term = s.Entries[k-1].Index, s.Entries[k-1].Term
	}
	var l []api.Entry
	for range r.IntN(4) {
		at, term = at+1, term+uint64(r.IntN(2))
		x := []api.Entry{none(term, at), command(term, at, strings.Repeat("c", r.IntN(20))), config(term, at, byte(1+r.IntN(127)))}[r.IntN(3)]
		if r.IntN(20) == 0 {
			x.Index += uint64(r.IntN(3)) - 1
		}
		l = append(l, x)
	}
	return l
}

// fallen: the store behind a crash, whose state is one of these.
func fallen(t *testing.T, d *disk.Disk, may []store.State) (*store.Store, store.State) {
	t.Helper()
	s, x, e := store.Open(d, 0, 7)
	answers(t, "Open behind a crash", e, api.OK)
	is(t, "State", s.State(), x)
	for _, m := range may {
		if same(x, m) {
			return s, x
		}
	}
	t.Fatalf("behind a crash: %s, none of %d", show(x), len(may))
	return nil, x
}
