package disk_test

import (
	"math"
	"math/rand/v2"
	"slices"
	"strings"
	"testing"

	"tontine/api"
	"tontine/disk"
)

// made is a disk of that room, or the test's end.
func made(t *testing.T, room int) *disk.Disk {
	t.Helper()
	d, e := disk.New(room)
	if e != api.OK || d == nil {
		t.Fatalf("New of %d answers %d", room, e)
	}
	return d
}

// answers holds what a call answered against what it should.
func answers(t *testing.T, what string, got, want api.Errno) {
	t.Helper()
	if got != want {
		t.Errorf("%s answers %d, want %d", what, got, want)
	}
}

// has holds a disk to having just these files, and these bytes in them.
func has(t *testing.T, what string, d *disk.Disk, want map[int]string) {
	t.Helper()
	var l []int
	used := 0
	for n := range api.MaxFiles {
		s, ok := want[n]
		if ok {
			l = append(l, n)
		}
		used += len(s)
	}
	if got := d.Files(); !slices.Equal(got, l) {
		t.Errorf("%s: Files answers %v, want %v", what, got, l)
	}
	if got := d.Used(); got != used {
		t.Errorf("%s: Used answers %d, want %d", what, got, used)
	}
	if d.Off() {
		return
	}
	for n := -1; n <= api.MaxFiles; n++ {
		s, ok := want[n]
		e := api.OK
		if !ok {
			e = api.ErrNone
		}
		if got, ge := d.Read(n); got != s || ge != e {
			t.Errorf("%s: Read of %d answers %.20q, %d, want %.20q, %d", what, n, got, ge, s, e)
		}
	}
}

// outside are numbers that no file has.
func outside() []int {
	return []int{math.MinInt, math.MinInt32, -17, -2, -1, api.MaxFiles, api.MaxFiles + 1, 64, math.MaxInt32, math.MaxUint32, math.MaxInt - 1, math.MaxInt}
}

// P4.1: a room of 0 to MaxDisk, both too, and no other; a new disk has nothing, and is on.
func TestNew(t *testing.T) {
	for _, room := range []int{0, 1, 2, 255, 65536, api.MaxDisk - 1, api.MaxDisk} {
		d := made(t, room)
		has(t, "new", d, nil)
		if d.Off() || d.Free() != room {
			t.Errorf("a disk of %d: Off answers %v, Free %d", room, d.Off(), d.Free())
		}
	}
	for _, room := range []int{-1, -2, math.MinInt, math.MinInt32, api.MaxDisk + 1, 2 * api.MaxDisk, math.MaxInt32, math.MaxInt} {
		if d, e := disk.New(room); d != nil || e != api.ErrArg {
			t.Errorf("New of %d answers %v, %d, want nothing and ErrArg", room, d, e)
		}
	}
}

// P4.1: the chapter's example.
func TestExample(t *testing.T) {
	d := made(t, 10)
	answers(t, "Append", d.Append(0, "ab"), api.OK)
	answers(t, "Sync", d.Sync(0), api.OK)
	answers(t, "Append", d.Append(0, "cd"), api.OK)
	has(t, "ahead", d, map[int]string{0: "abcd"})
	has(t, "behind", d.Crash([]int{1}), map[int]string{0: "abc"})
}

// P4.1: all numbers of files are taken, in any order; Files tells them from the least up.
func TestNumbers(t *testing.T) {
	d := made(t, 1000)
	want := map[int]string{}
	for i := range api.MaxFiles {
		n := (i*7 + 15) % api.MaxFiles
		want[n] = strings.Repeat("x", n) + "\x00\xff"
		answers(t, "Append", d.Append(n, want[n]), api.OK)
		has(t, "behind Append", d, want)
	}
	for i := range api.MaxFiles {
		n := (i*5 + 3) % api.MaxFiles
		delete(want, n)
		answers(t, "Remove", d.Remove(n), api.OK)
		has(t, "behind Remove", d, want)
	}
}

// P4.1: a number that no file has is ErrArg where something is laid, and ErrNone elsewhere; no step is made.
func TestNoNumber(t *testing.T) {
	d := made(t, 10)
	d.Append(0, "ab")
	d.Append(15, "c")
	d.Fuel(1)
	for _, n := range outside() {
		for _, s := range []string{"", "a", strings.Repeat("a", 11)} {
			answers(t, "Append", d.Append(n, s), api.ErrArg)
			answers(t, "Replace", d.Replace(n, s), api.ErrArg)
		}
		answers(t, "Sync", d.Sync(n), api.ErrNone)
		answers(t, "Remove", d.Remove(n), api.ErrNone)
	}
	answers(t, "Append", d.Append(0, "d"), api.OK)
	has(t, "behind all", d, map[int]string{0: "abd", 15: "c"})
}

// P4.1: a file that isn't there, at each number; no step is made.
func TestNone(t *testing.T) {
	d := made(t, 10)
	d.Fuel(2)
	for n := range api.MaxFiles {
		answers(t, "Sync", d.Sync(n), api.ErrNone)
		answers(t, "Remove", d.Remove(n), api.ErrNone)
		if s, e := d.Read(n); s != "" || e != api.ErrNone {
			t.Errorf("Read of %d answers %q, %d", n, s, e)
		}
	}
	answers(t, "Append", d.Append(3, ""), api.OK)
	answers(t, "Remove", d.Remove(3), api.OK)
	has(t, "behind both", d, nil)
}

// P4.1: room is for all files together, up to the last byte; nothing fits at all times; no step is made without room.
func TestFull(t *testing.T) {
	d := made(t, 10)
	d.Append(0, "abcd")
	d.Append(1, "efg")
	d.Fuel(5)
	answers(t, "Append of 4", d.Append(2, "1234"), api.ErrFull)
	answers(t, "Append of 4", d.Append(0, "1234"), api.ErrFull)
	answers(t, "Replace of 8", d.Replace(0, "12345678"), api.ErrFull)
	answers(t, "Replace of 7", d.Replace(1, "1234567"), api.ErrFull)
	answers(t, "Replace of 4", d.Replace(2, "1234"), api.ErrFull)
	has(t, "refused", d, map[int]string{0: "abcd", 1: "efg"})
	answers(t, "Append of 3", d.Append(2, "123"), api.OK)
	if d.Free() != 0 {
		t.Errorf("Free answers %d, want 0", d.Free())
	}
	answers(t, "Append of 1", d.Append(2, "4"), api.ErrFull)
	answers(t, "Append of nothing", d.Append(2, ""), api.OK)
	answers(t, "Append of nothing", d.Append(3, ""), api.OK)
	answers(t, "Replace of 5", d.Replace(0, "12345"), api.ErrFull)
	answers(t, "Replace of 4", d.Replace(0, "1234"), api.OK)
	answers(t, "Replace of nothing", d.Replace(4, ""), api.OK)
	has(t, "full", d, map[int]string{0: "1234", 1: "efg", 2: "123", 3: "", 4: ""})
	answers(t, "without fuel", d.Append(3, ""), api.ErrDown)
}

// P4.1: the room of the greatest disk, and what is too long by far.
func TestRoom(t *testing.T) {
	most := strings.Repeat("x", api.MaxDisk)
	d := made(t, api.MaxDisk)
	answers(t, "Append of one more", d.Append(0, most+"x"), api.ErrFull)
	answers(t, "Replace of one more", d.Replace(0, most+"x"), api.ErrFull)
	answers(t, "Append of all", d.Append(0, most), api.OK)
	answers(t, "Append behind all", d.Append(0, "x"), api.ErrFull)
	answers(t, "Replace of all", d.Replace(0, most), api.OK)
	has(t, "full", d, map[int]string{0: most})
	has(t, "crashed", d.Crash(nil), map[int]string{0: most})
	answers(t, "Remove", d.Remove(0), api.OK)
	answers(t, "Replace of nothing there", d.Replace(9, most), api.OK)
	none := made(t, 0)
	answers(t, "Append of 1", none.Append(0, "x"), api.ErrFull)
	answers(t, "Replace of 1", none.Replace(0, "x"), api.ErrFull)
	answers(t, "Append of nothing", none.Append(0, ""), api.OK)
	answers(t, "Replace of nothing", none.Replace(1, ""), api.OK)
	has(t, "no room", none, map[int]string{0: "", 1: ""})
}

// P4.1: what Replace lays has no more to do with what was there, and is firm; so is what Sync met, and no more.
func TestReplaceAndSync(t *testing.T) {
	d := made(t, 100)
	d.Append(0, "soft")
	answers(t, "Replace", d.Replace(0, "ab"), api.OK)
	has(t, "replaced", d, map[int]string{0: "ab"})
	has(t, "replaced, crashed", d.Crash(nil), map[int]string{0: "ab"})
	d.Append(0, "cd")
	has(t, "appended, crashed", d.Crash(nil), map[int]string{0: "ab"})
	answers(t, "Sync", d.Sync(0), api.OK)
	d.Append(0, "ef")
	d.Append(1, "gh")
	has(t, "synced, crashed", d.Crash(nil), map[int]string{0: "abcd"})
	answers(t, "Replace by less", d.Replace(0, "z"), api.OK)
	d.Append(0, "yx")
	has(t, "less, crashed", d.Crash([]int{1}), map[int]string{0: "zy"})
	answers(t, "Replace by nothing", d.Replace(0, ""), api.OK)
	has(t, "nothing", d, map[int]string{0: "", 1: "gh"})
	has(t, "nothing, crashed", d.Crash(nil), map[int]string{0: ""})
}

// P4.1: a file that was removed leaves nothing, firm or soft; another of its number begins anew.
func TestRemove(t *testing.T) {
	d := made(t, 10)
	d.Append(4, "ab")
	d.Sync(4)
	d.Append(4, "cd")
	answers(t, "Remove", d.Remove(4), api.OK)
	has(t, "removed", d, nil)
	has(t, "removed, crashed", d.Crash([]int{9, 9, 9, 9, 9}), nil)
	answers(t, "Remove again", d.Remove(4), api.ErrNone)
	answers(t, "Append", d.Append(4, "ef"), api.OK)
	has(t, "anew", d, map[int]string{4: "ef"})
	has(t, "anew, crashed", d.Crash(nil), nil)
}

// steps are all calls that make a step, each one on file 0 with two bytes.
func steps() map[string]func(*disk.Disk) api.Errno {
	return map[string]func(*disk.Disk) api.Errno{
		"Append":  func(d *disk.Disk) api.Errno { return d.Append(0, "cd") },
		"Sync":    func(d *disk.Disk) api.Errno { return d.Sync(0) },
		"Replace": func(d *disk.Disk) api.Errno { return d.Replace(0, "cd") },
		"Remove":  func(d *disk.Disk) api.Errno { return d.Remove(0) },
	}
}

// P4.1: each step takes one of fuel; the one that finds none does nothing, and the disk goes off then, not ahead.
func TestFuel(t *testing.T) {
	for name, step := range steps() {
		for fuel := range 4 {
			d := made(t, 10)
			d.Fuel(fuel)
			for i := range fuel {
				answers(t, "Append with fuel", d.Append(1+i, "x"), api.OK)
			}
			if d.Off() {
				t.Errorf("%s: off behind %d steps of as many", name, fuel)
			}
			d.Fuel(1)
			answers(t, "Append with fuel anew", d.Append(0, "ab"), api.OK)
			has(t, "ahead of "+name, d.Crash([]int{2}), map[int]string{0: "ab"})
			answers(t, name+" without fuel", step(d), api.ErrDown)
			if !d.Off() {
				t.Errorf("%s without fuel leaves the disk on", name)
			}
			if l := d.Files(); len(l) != fuel+1 || d.Used() != fuel+2 || d.Free() != 8-fuel {
				t.Errorf("%s without fuel leaves files %v, %d bytes, %d free", name, l, d.Used(), d.Free())
			}
			has(t, "behind "+name, d.Crash(nil), nil)
			has(t, "behind "+name, d.Crash([]int{2}), map[int]string{0: "ab"})
		}
	}
}

// P4.1: steps are without end at first, and where Fuel is told a number below 0.
func TestFuelWithoutEnd(t *testing.T) {
	d := made(t, 10)
	for i, fuel := range []int{-1, -2, math.MinInt, math.MinInt + 1, math.MaxInt, math.MaxInt32} {
		for range 1000 {
			for _, e := range []api.Errno{d.Append(0, "ab"), d.Sync(0), d.Replace(0, "c"), d.Remove(0)} {
				answers(t, "a step", e, api.OK)
			}
		}
		d.Fuel(0)
		d.Fuel(fuel)
		if d.Off() {
			t.Fatalf("off behind Fuel of number %d", i)
		}
	}
}

// P4.1: what makes no step takes no fuel.
func TestFuelLasts(t *testing.T) {
	d := made(t, 2)
	d.Append(0, "ab")
	d.Fuel(1)
	for range 5 {
		d.Read(0)
		d.Read(1)
		d.Files()
		d.Used()
		d.Free()
		d.Off()
		d.Crash(nil)
		d.Append(0, "c")
		d.Append(-1, "")
		d.Replace(0, "abc")
		d.Replace(16, "")
		d.Sync(1)
		d.Remove(1)
	}
	answers(t, "the one step", d.Sync(0), api.OK)
	answers(t, "the next", d.Sync(0), api.ErrDown)
}

// off is a disk of 10 with a firm "ab" and a soft "c" in file 0, that went off.
func off(t *testing.T) *disk.Disk {
	d := made(t, 10)
	d.Append(0, "ab")
	d.Sync(0)
	d.Append(0, "c")
	d.Fuel(0)
	answers(t, "a step without fuel", d.Remove(0), api.ErrDown)
	return d
}

// P4.1: a disk that is off stays off, whatever fuel it is given, and does nothing more; what it has is told still.
func TestOff(t *testing.T) {
	d := off(t)
	for _, fuel := range []int{0, 1, 5, -1, math.MaxInt, math.MinInt} {
		d.Fuel(fuel)
		for name, step := range steps() {
			answers(t, name+" when off", step(d), api.ErrDown)
		}
		for _, n := range []int{0, 1} {
			answers(t, "Append without room", d.Append(n, "12345678"), api.ErrDown)
			answers(t, "Replace without room", d.Replace(n, "12345678901"), api.ErrDown)
		}
		for _, n := range append(outside(), 0, 1, 15) {
			answers(t, "Sync when off", d.Sync(n), api.ErrDown)
			answers(t, "Remove when off", d.Remove(n), api.ErrDown)
			if s, e := d.Read(n); s != "" || e != api.ErrDown {
				t.Errorf("Read of %d when off answers %q, %d", n, s, e)
			}
		}
		for _, n := range outside() {
			answers(t, "Append when off", d.Append(n, ""), api.ErrArg)
			answers(t, "Replace when off", d.Replace(n, ""), api.ErrArg)
		}
		if l := d.Files(); !d.Off() || !slices.Equal(l, []int{0}) || d.Used() != 3 || d.Free() != 7 {
			t.Errorf("when off: %v, files %v, %d bytes, %d free", d.Off(), l, d.Used(), d.Free())
		}
	}
}

// P4.1: what Crash answers is on, of as much room, and without an end of fuel; the disk that fell stays as it was.
func TestCrashIsAnother(t *testing.T) {
	d := off(t)
	x := d.Crash([]int{1})
	if x == d || x.Off() || x.Free() != 7 || !d.Off() || d.Used() != 3 {
		t.Fatalf("crashed: off %v, %d free", x.Off(), x.Free())
	}
	for range 1000 {
		answers(t, "a step", x.Replace(1, "1234567"), api.OK)
	}
	answers(t, "a step without room", x.Append(2, "1"), api.ErrFull)
	on := made(t, 10)
	on.Append(0, "ab")
	on.Fuel(1)
	y := on.Crash([]int{2})
	for range 9 {
		answers(t, "a step of the other", y.Sync(0), api.OK)
	}
	answers(t, "the one step", on.Sync(0), api.OK)
	answers(t, "the next", on.Sync(0), api.ErrDown)
	answers(t, "a step of the other", y.Sync(0), api.OK)
}

// P4.1: what is left of soft bytes, at each way that keep has to be; what is left is firm.
func TestCrashKeeps(t *testing.T) {
	d := made(t, 100)
	d.Append(0, "ab")
	d.Sync(0)
	d.Append(0, "cd")
	d.Append(1, "xyz")
	d.Append(2, "firm")
	d.Sync(2)
	d.Append(3, "")
	d.Replace(4, "")
	d.Append(5, "")
	d.Append(5, "pq")
	d.Replace(6, "")
	d.Append(6, "rs")
	d.Append(15, "last")
	base := map[int]string{0: "ab", 2: "firm", 3: "", 4: ""}
	with := func(more map[int]string) map[int]string {
		out := map[int]string{}
		for n, s := range base {
			out[n] = s
		}
		for n, s := range more {
			out[n] = s
		}
		return out
	}
	long := slices.Repeat([]int{1}, 16)
	for i, x := range []struct {
		keep []int
		more map[int]string
	}{
		{nil, nil},
		{[]int{}, nil},
		{[]int{0, 0, 0, 0, 0, 0, 0}, nil},
		{[]int{-1, -1, -1, -1, -1, -5, math.MinInt}, nil},
		{[]int{math.MinInt, 1}, map[int]string{1: "x"}},
		{[]int{1}, map[int]string{0: "abc"}},
		{[]int{2}, map[int]string{0: "abcd"}},
		{[]int{3, 3}, map[int]string{0: "abcd", 1: "xyz"}},
		{[]int{math.MaxInt, math.MaxInt - 1, math.MaxInt, math.MaxInt, math.MaxInt}, map[int]string{0: "abcd", 1: "xyz"}},
		{[]int{0, 2}, map[int]string{1: "xy"}},
		{[]int{0, 0, 0, 0, 0, 1, 2}, map[int]string{5: "p", 6: "rs"}},
		{long, map[int]string{0: "abc", 1: "x", 5: "p", 6: "r", 15: "l"}},
		{long[:15], map[int]string{0: "abc", 1: "x", 5: "p", 6: "r"}},
		{append(slices.Clone(long), 9, 9, 9), map[int]string{0: "abc", 1: "x", 5: "p", 6: "r", 15: "l"}},
	} {
		left := d.Crash(x.keep)
		has(t, "crash "+string(rune('a'+i)), left, with(x.more))
		has(t, "crash, and one more "+string(rune('a'+i)), left.Crash(nil), with(x.more))
		has(t, "crash, and one that keeps "+string(rune('a'+i)), left.Crash(long), with(x.more))
	}
}

// P4.1: of a nil disk: ErrDown, behind ErrArg; nothing; off; and nil is left of it.
func TestNil(t *testing.T) {
	var d *disk.Disk
	for _, n := range []int{0, 1, 15} {
		answers(t, "Append", d.Append(n, "a"), api.ErrDown)
		answers(t, "Replace", d.Replace(n, "a"), api.ErrDown)
	}
	for _, n := range outside() {
		answers(t, "Append", d.Append(n, "a"), api.ErrArg)
		answers(t, "Replace", d.Replace(n, "a"), api.ErrArg)
	}
	for _, n := range append(outside(), 0, 15) {
		d.Fuel(n)
		answers(t, "Sync", d.Sync(n), api.ErrDown)
		answers(t, "Remove", d.Remove(n), api.ErrDown)
		if s, e := d.Read(n); s != "" || e != api.ErrDown {
			t.Errorf("Read of %d answers %q, %d", n, s, e)
		}
	}
	if !d.Off() || d.Used() != 0 || d.Free() != 0 || len(d.Files()) != 0 || d.Crash(nil) != nil || d.Crash([]int{1}) != nil {
		t.Error("a nil disk has something")
	}
}

// P0: a disk that New didn't make panics neither.
func TestUnmade(t *testing.T) {
	for _, fuel := range []int{-1, 0, 1, 9} {
		for _, n := range append(outside(), 0, 15) {
			d := new(disk.Disk)
			d.Fuel(fuel)
			d.Append(n, "")
			d.Replace(n, "")
			d.Append(n, "a")
			d.Sync(n)
			d.Read(n)
			d.Crash([]int{n}).Append(n, "")
			d.Remove(n)
		}
	}
}

// A words is a disk as the chapter's words have it: firm and soft bytes apart, file by file.
type words struct {
	room, fuel int
	off        bool
	there      [api.MaxFiles]bool
	firm, soft [api.MaxFiles]string
}

func (w *words) used() int { return len(strings.Join(w.firm[:], "") + strings.Join(w.soft[:], "")) }

func (w *words) step() bool {
	switch {
	case w.fuel < 0:
	case w.fuel == 0:
		w.off = true
	default:
		w.fuel--
	}
	return !w.off
}

func (w *words) set(n int, there bool, firm, soft string) {
	w.there[n], w.firm[n], w.soft[n] = there, firm, soft
}

func (w *words) crash(keep []int) *words {
	out := &words{room: w.room, fuel: -1}
	for n := range api.MaxFiles {
		s := ""
		for i, c := range []byte(w.soft[n]) {
			if n < len(keep) && i < keep[n] {
				s += string([]byte{c})
			}
		}
		s = w.firm[n] + s
		out.set(n, w.there[n] && (s != "" || w.soft[n] == ""), s, "")
	}
	return out
}

// A call is one of a disk's calls, by its name, with a file's number (or a fuel) and a text.
type call struct {
	name string
	n    int
	s    string
}

// do makes the call by the chapter's words.
func (w *words) do(c call) api.Errno {
	ranged := c.n >= 0 && c.n < api.MaxFiles
	lays := c.name == "Append" || c.name == "Replace"
	if c.name == "Fuel" {
		w.fuel = c.n
		return api.OK
	}
	if lays && !ranged {
		return api.ErrArg
	}
	if w.off {
		return api.ErrDown
	}
	switch {
	case c.name == "Append" && w.used()+len(c.s) > w.room:
		return api.ErrFull
	case c.name == "Replace" && w.used()-len(w.firm[c.n])-len(w.soft[c.n])+len(c.s) > w.room:
		return api.ErrFull
	case !lays && (!ranged || !w.there[c.n]):
		return api.ErrNone
	case !w.step():
		return api.ErrDown
	}
	switch c.name {
	case "Append":
		w.set(c.n, true, w.firm[c.n], w.soft[c.n]+c.s)
	case "Sync":
		w.set(c.n, true, w.firm[c.n]+w.soft[c.n], "")
	case "Replace":
		w.set(c.n, true, c.s, "")
	case "Remove":
		w.set(c.n, false, "", "")
	}
	return api.OK
}

// do makes the call of the disk.
func do(d *disk.Disk, c call) api.Errno {
	switch c.name {
	case "Append":
		return d.Append(c.n, c.s)
	case "Sync":
		return d.Sync(c.n)
	case "Replace":
		return d.Replace(c.n, c.s)
	case "Remove":
		return d.Remove(c.n)
	}
	d.Fuel(c.n)
	return api.OK
}

// alike holds all that a disk tells against the words.
func alike(t *testing.T, d *disk.Disk, w *words) {
	t.Helper()
	var l []int
	for n, there := range w.there {
		if there {
			l = append(l, n)
		}
		e := api.OK
		s := w.firm[n] + w.soft[n]
		if w.off {
			s, e = "", api.ErrDown
		} else if !there {
			e = api.ErrNone
		}
		if got, ge := d.Read(n); got != s || ge != e {
			t.Fatalf("Read of %d answers %q, %d, want %q, %d", n, got, ge, s, e)
		}
	}
	if got := d.Files(); !slices.Equal(got, l) {
		t.Fatalf("Files answers %v, want %v", got, l)
	}
	if d.Off() != w.off || d.Used() != w.used() || d.Free() != w.room-w.used() {
		t.Fatalf("off %v, %d bytes, %d free; want %v, %d, %d", d.Off(), d.Used(), d.Free(), w.off, w.used(), w.room-w.used())
	}
}

// keeps are ways of what a crash leaves of files 0 and 1.
func keeps() [][]int { return [][]int{nil, {-1, 1}, {1}, {1, 2}, {9, 9}} }

// run makes calls on a disk, and by the words, and holds them and all crashes behind them against each other.
func run(t *testing.T, room int, calls []call) {
	t.Helper()
	d, w := made(t, room), &words{room: room, fuel: -1}
	for i, c := range calls {
		if got, want := do(d, c), w.do(c); got != want {
			t.Fatalf("call %d of %v on a disk of %d answers %d, want %d", i, calls, room, got, want)
		}
	}
	alike(t, d, w)
	for _, keep := range keeps() {
		left := w.crash(keep)
		alike(t, d.Crash(keep), left)
		alike(t, d.Crash(keep).Crash(nil), left)
	}
}

// P4.1: all short ways to go, on a disk that is soon full, with two files.
func TestAllShort(t *testing.T) {
	var all []call
	for n := range 2 {
		all = append(all, call{"Append", n, ""}, call{"Append", n, "ab"}, call{"Sync", n, ""},
			call{"Replace", n, ""}, call{"Replace", n, "cd"}, call{"Remove", n, ""})
	}
	all = append(all, call{"Append", 0, "xyz"}, call{"Fuel", 0, ""}, call{"Fuel", 1, ""}, call{"Fuel", -1, ""})
	var further func(calls []call, more int)
	further = func(calls []call, more int) {
		run(t, 4, calls)
		for _, c := range all {
			if more > 0 && !t.Failed() {
				further(append(calls, c), more-1)
			}
		}
	}
	further(nil, 4)
}

// draws gives numbers that look like chance and are the same each time.
func draws(seed int) *rand.Rand { return rand.New(rand.NewPCG(uint64(seed), 4)) }

// drawn is a call that looks like chance.
func drawn(r *rand.Rand) call {
	names := []string{"Append", "Append", "Append", "Append", "Sync", "Sync", "Replace", "Remove", "Fuel"}
	name := names[r.IntN(len(names))]
	if name == "Fuel" {
		if r.IntN(8) > 0 {
			return call{name, -1 - r.IntN(3), ""}
		}
		return call{name, r.IntN(100), ""}
	}
	b := make([]byte, r.IntN(12))
	for i := range b {
		b[i] = byte(r.Uint32())
	}
	return call{name, r.IntN(api.MaxFiles+2) - 1, string(b)}
}

// P4.1: long ways to go, through all files, with crashes between them, at bytes of all kinds.
func TestLong(t *testing.T) {
	for seed := range 200 {
		r := draws(seed)
		room := 1 + r.IntN(300)
		d, w := made(t, room), &words{room: room, fuel: -1}
		for range 400 {
			c := drawn(r)
			if got, want := do(d, c), w.do(c); got != want {
				t.Fatalf("way %d: %v answers %d, want %d", seed, c, got, want)
			}
			alike(t, d, w)
			if w.off || r.IntN(20) == 0 {
				keep := make([]int, r.IntN(api.MaxFiles+3))
				for i := range keep {
					keep[i] = r.IntN(20) - 3
				}
				left, leftWords := d.Crash(keep), w.crash(keep)
				alike(t, left, leftWords)
				alike(t, d, w)
				d, w = left, leftWords
			}
		}
	}
}

// contents are all files that are there.
func contents(t *testing.T, d *disk.Disk) map[int]string {
	t.Helper()
	out := map[int]string{}
	for _, n := range d.Files() {
		s, e := d.Read(n)
		answers(t, "Read of what is there", e, api.OK)
		out[n] = s
	}
	return out
}

// P4.2: whatever a crash keeps: what was synced or replaced is there, and nothing but the beginning of what was there,
// and that of files that were there; a crash behind a crash loses nothing.
func TestFirmIsNeverLost(t *testing.T) {
	for seed := range 300 {
		r := draws(1000 + seed)
		d := made(t, 200)
		firm := map[int]string{} // by what the calls answered, and no more
		for range 150 {
			c := drawn(r)
			if c.name == "Fuel" || do(d, c) != api.OK {
				continue
			}
			switch c.name {
			case "Sync", "Replace":
				firm[c.n], _ = d.Read(c.n)
			case "Remove":
				delete(firm, c.n)
			}
			before := contents(t, d)
			keep := make([]int, r.IntN(api.MaxFiles+1))
			for i := range keep {
				keep[i] = r.IntN(16) - 4
			}
			x := d.Crash(keep)
			left := contents(t, x)
			for n, s := range firm {
				if !strings.HasPrefix(left[n], s) {
					t.Fatalf("file %d is %q behind a crash, and %q was firm", n, left[n], s)
				}
			}
			for n, s := range left {
				was, ok := before[n]
				if !ok || !strings.HasPrefix(was, s) {
					t.Fatalf("file %d is %q behind a crash, and was %q", n, s, was)
				}
			}
			has(t, "behind another crash", x.Crash(nil), left)
		}
	}
}

// P4.2: a step that wasn't made for want of fuel loses nothing that was firm, and brings nothing.
func TestFirmWithoutFuel(t *testing.T) {
	for name, step := range steps() {
		d := made(t, 10)
		d.Append(0, "ab")
		d.Sync(0)
		d.Append(0, "x")
		d.Fuel(0)
		answers(t, name, step(d), api.ErrDown)
		has(t, name, d.Crash(nil), map[int]string{0: "ab"})
		has(t, name, d.Crash([]int{9}), map[int]string{0: "abx"})
	}
}

// P4.2: the disk that fell and those that are left of it have nothing in common: what is done to one isn't to another.
func TestApart(t *testing.T) {
	d := made(t, 1000)
	d.Append(0, strings.Repeat("a", 20))
	d.Sync(0)
	d.Append(0, strings.Repeat("b", 13)) // so that there may be room behind the bytes
	x, y := d.Crash([]int{5}), d.Crash([]int{5})
	want := strings.Repeat("a", 20) + "bbbbb"
	d.Append(0, "dd")
	x.Append(0, "xx")
	y.Append(0, "yy")
	d.Append(1, "d")
	has(t, "fell", d, map[int]string{0: strings.Repeat("a", 20) + strings.Repeat("b", 13) + "dd", 1: "d"})
	has(t, "one", x, map[int]string{0: want + "xx"})
	has(t, "another", y, map[int]string{0: want + "yy"})
	answers(t, "Remove", d.Remove(0), api.OK)
	answers(t, "Replace", x.Replace(0, "z"), api.OK)
	has(t, "one", x, map[int]string{0: "z"})
	has(t, "another", y, map[int]string{0: want + "yy"})
}

// Rule 4: keep isn't changed, and is not kept; Files answers new memory.
func TestHandedInStays(t *testing.T) {
	d := made(t, 100)
	d.Append(0, "abc")
	d.Append(2, "def")
	room := []int{2, -7, math.MaxInt, 4, 5}
	x := d.Crash(room[:3])
	if !slices.Equal(room, []int{2, -7, math.MaxInt, 4, 5}) {
		t.Error("what was handed in has changed")
	}
	clear(room)
	has(t, "crashed", x, map[int]string{0: "ab", 2: "def"})
	l := d.Files()
	for i := range l[:cap(l)] {
		l[:cap(l)][i] = 9
	}
	has(t, "behind Files", d, map[int]string{0: "abc", 2: "def"})
}

// Rule 8: a disk's answers hang on its own calls alone, not on other disks', nor on how its bytes came there.
func TestSameAgain(t *testing.T) {
	one, many := made(t, 100), made(t, 100)
	one.Append(3, "abcdefgh")
	for i := range 8 {
		made(t, 100).Append(3, "other")
		many.Append(3, "abcdefgh"[i:i+1])
	}
	for range 3 {
		has(t, "one", one, map[int]string{3: "abcdefgh"})
		has(t, "many", many, map[int]string{3: "abcdefgh"})
		has(t, "one, crashed", one.Crash([]int{0, 0, 0, 5}), map[int]string{3: "abcde"})
		has(t, "many, crashed", many.Crash([]int{0, 0, 0, 5}), map[int]string{3: "abcde"})
	}
}

// P0: many small texts behind one another end in time.
func TestManyAppends(t *testing.T) {
	d := made(t, api.MaxDisk)
	for range api.MaxDisk / 8 {
		if d.Append(0, "12345678") != api.OK {
			t.Fatal("no room")
		}
	}
	answers(t, "Sync", d.Sync(0), api.OK)
	answers(t, "Append", d.Append(0, "1"), api.ErrFull)
	has(t, "full", d.Crash(nil), map[int]string{0: strings.Repeat("12345678", api.MaxDisk/8)})
}
