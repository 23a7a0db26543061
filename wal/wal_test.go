package wal_test

import (
	"bytes"
	"math"
	"math/rand/v2"
	"slices"
	"strings"
	"testing"

	"tontine/api"
	"tontine/disk"
	"tontine/wal"
)

// sum is a check sum of bytes, bit by bit.
func sum(s string) uint32 {
	x := uint32(math.MaxUint32)
	for _, c := range []byte(s) {
		x ^= uint32(c)
		for range 8 {
			if x&1 == 1 {
				x = x>>1 ^ 0x82F63B78
			} else {
				x >>= 1
			}
		}
	}
	return ^x
}

// stuffed are pieces that stand for s, as long as they can be.
func stuffed(s string) string {
	var out strings.Builder
	for _, part := range strings.Split(s, "\x00") {
		for len(part) >= 254 {
			out.WriteString("\xff" + part[:254])
			part = part[254:]
		}
		out.WriteString(string([]byte{byte(len(part) + 1)}) + part)
	}
	return out.String()
}

// four are a number's bytes, the highest first.
func four(x uint32) string {
	return string([]byte{byte(x >> 24), byte(x >> 16), byte(x >> 8), byte(x)})
}

// frame is a record's frame by the chapter's words.
func frame(s string) string { return stuffed(s+four(sum(s))) + "\x00" }

// framed are the frames of l, one behind the other.
func framed(l ...string) string {
	var out strings.Builder
	for _, s := range l {
		out.WriteString(frame(s))
	}
	return out.String()
}

// plain is what stands for pieces, whatever these are; false, if they aren't pieces.
func plain(s string) (string, bool) {
	var out strings.Builder
	for s != "" {
		n := int(s[0])
		if n == 0 || n > len(s) {
			return "", false
		}
		out.WriteString(s[1:n])
		s = s[n:]
		if n < 255 && s != "" {
			out.WriteString("\x00")
		}
	}
	return out.String(), true
}

// scan is what the chapter says of Scan: a frame stands where the frame of some record does.
func scan(s string) ([]string, int) {
	var l []string
	at := 0
	for {
		coded, _, ended := strings.Cut(s[at:], "\x00")
		p, ok := plain(coded)
		if !ended || !ok || len(p) < 4 {
			return l, at
		}
		record := p[:len(p)-4]
		if len(record) > api.MaxRecord || frame(record) != coded+"\x00" {
			return l, at
		}
		l = append(l, record)
		at += len(coded) + 1
	}
}

// span is n bytes without a zero, no two neighbours of which are equal.
func span(n int) string {
	out := make([]byte, n)
	for i := range out {
		out[i] = byte(1 + i%255)
	}
	return string(out)
}

// draws gives numbers that look like chance and are the same each time.
func draws(seed int) *rand.Rand { return rand.New(rand.NewPCG(uint64(seed), 5)) }

// drawn is a record that looks like chance, with many zeros, few, or hardly any.
func drawn(r *rand.Rand, most int) string {
	b := make([]byte, r.IntN(most+1))
	kind := r.IntN(3)
	for i := range b {
		switch kind {
		case 0:
			b[i] = byte(r.IntN(2))
		case 1:
			b[i] = byte(r.Uint32())
		default:
			b[i] = byte(1 + r.IntN(255))
		}
	}
	return string(b)
}

// records are records of many kinds, at the edges of pieces and of lengths too.
func records() []string {
	l := []string{
		"", "a", "\x00", "\x00\x00", "\x01", "\xff", "\xff\x00", "\x00\xff", "one", "three\x00", "a\x00b\x00\x00c",
		strings.Repeat("\x00", 300), "123456789", "\x01\x01\x01\x01\x01\x00", "no\u00e9", "\xc3\x28",
	}
	for _, n := range []int{3, 249, 250, 251, 252, 253, 254, 255, 256, 503, 504, 505, 507, 508, 509, 1000} {
		l = append(l, span(n), span(n)+"\x00", "\x00"+span(n))
	}
	r := draws(0)
	for range 200 {
		l = append(l, drawn(r, 600))
	}
	return append(l, span(api.MaxRecord-1), span(api.MaxRecord), strings.Repeat("\x00", api.MaxRecord))
}

// P5.1: Frame answers by the words, its example too, for any bytes: those that are longer than a record too.
func TestFrame(t *testing.T) {
	for s, want := range map[string]string{
		"":          "\x01\x01\x01\x01\x01\x00",
		"123456789": "\x0e123456789\xe3\x06\x92\x83\x00",
		"a":         "\x06a\xc1\xd0\x43\x30\x00",
		"\x00":      "\x01\x05\x52\x7d\x53\x51\x00",
		span(250):   "\xff" + span(250) + four(sum(span(250))) + "\x01\x00",
	} {
		if got := wal.Frame(s); got != want {
			t.Errorf("Frame of %.20q answers % x, want % x", s, got, want)
		}
	}
	long := []string{span(api.MaxRecord + 1), strings.Repeat("\x00", api.MaxRecord+1), span(200000), strings.Repeat("ab\x00", 100000)}
	for _, s := range append(records(), long...) {
		if got := wal.Frame(s); got != frame(s) {
			t.Errorf("Frame of %d bytes, %.20q, isn't by the words", len(s), s)
		}
	}
}

// scans holds what Scan answers against what it should.
func scans(t *testing.T, s string, want []string, place int) {
	t.Helper()
	if l, n := wal.Scan(s); n != place || !slices.Equal(l, want) {
		t.Fatalf("Scan of %d bytes, %.40q, answers %d records, %.60q, %d; want %d, %.60q, %d", len(s), s, len(l), l, n, len(want), want, place)
	}
}

// P5.1: Scan answers all records of whole frames, and where they end; nothing of nothing.
func TestScanWhole(t *testing.T) {
	scans(t, "", nil, 0)
	for _, s := range records() {
		scans(t, frame(s), []string{s}, len(frame(s)))
		scans(t, framed("x", s, "", s), []string{"x", s, "", s}, len(framed("x", s, "", s)))
	}
	all := records()
	whole := framed(all...)
	scans(t, whole, all, len(whole))
}

// P5.1: what isn't the frame of a record ends the scan, at its beginning, whatever stands behind it.
func TestScanRefuses(t *testing.T) {
	ahead, behind := []string{"one", "", "t\x00wo"}, framed("further", "")
	at := len(framed(ahead...))
	full := span(250) + four(sum(span(250))) // a piece of 255: these have no zero
	if strings.Contains(full, "\x00") {
		t.Fatal("the sum of this record has a zero: take another one")
	}
	for i, s := range []string{
		"\x00", "\x00\x00", "\x00rest", "rest", "rest\x00",
		"\x01\x00", "\x01\x01\x00", "\x01\x01\x01\x00", "\x01\x01\x01\x01\x00", // less than a sum
		"\x02a\x00", "\x04abc\x00", "\x05abcd\x00",
		"\x01\x01\x01\x01\x02\x01\x00", "\x05\x01\x01\x01\x01\x00", // not the sum of nothing
		"\x01\x01\x01\x01\x01\x01\x00",           // not the sum of a zero
		"\x06a\x30\x43\xd0\xc1\x00",              // the lowest first
		"\x06\xc1\xd0\x43\x30a\x00",              // the sum ahead
		"\x06b\xc1\xd0\x43\x30\x00",              // another record's sum
		"\x06a\xc1\xd0\x43\x31\x00", "\x06a\x00", // bent, cut short
		"\x07a\xc1\xd0\x43\x30\x00",                        // a piece that is too short
		"\x05a\xc1\xd0\x43\x30\x00",                        // and one that is too long
		"a\xc1\xd0\x43\x30\x00",                            // not stuffed
		"\x02a\x02\xc1\xd0\x43\x30\x00",                    // no pieces behind the second
		"\xff" + full + "\x00",                             // nothing behind a piece of 255
		"\xfe" + full[:253] + "\x02" + full[253:] + "\x00", // that says a zero
		frame(span(api.MaxRecord + 1)),                     // no record
		frame(strings.Repeat("\x00", api.MaxRecord+1)), frame(span(3 * api.MaxRecord)),
	} {
		t.Logf("input %d", i)
		scans(t, s, nil, 0)
		scans(t, s+behind, nil, 0)
		scans(t, framed(ahead...)+s, ahead, at)
		scans(t, framed(ahead...)+s+behind, ahead, at)
	}
}

// P5.1: of frames that are cut off anywhere there are the whole ones.
func TestScanCutOff(t *testing.T) {
	l := []string{"one", "", "\x00\x00", span(300), "a\x00b", ""}
	s := framed(l...)
	whole, at := 0, 0
	for n := range len(s) + 1 {
		if whole < len(l) && n == at+len(frame(l[whole])) {
			at = n
			whole++
		}
		scans(t, s[:n], l[:whole], at)
	}
	if whole != len(l) {
		t.Fatalf("%d frames were met", whole)
	}
}

// P5.1: of frames in which one byte is anything else there are those ahead of it; P5.2 leans on it.
func TestScanBent(t *testing.T) {
	l := []string{"one", "", "a\x00b", span(255), "end"}
	s := framed(l...)
	whole, at := 0, 0
	for i := range len(s) {
		if i == at+len(frame(l[whole])) {
			at = i
			whole++
		}
		for turn := 1; turn < 256; turn++ {
			b := []byte(s)
			b[i] ^= byte(turn)
			if want, n := scan(string(b)); n != at || !slices.Equal(want, l[:whole]) {
				t.Fatalf("byte %d, turned by %d, isn't seen by the words", i, turn)
			}
			scans(t, string(b), l[:whole], at)
		}
	}
}

// P5.1: Scan by the words, at frames and others' bytes in all orders, and at bytes put in, taken out and doubled.
func TestScanAnyBytes(t *testing.T) {
	for seed := range 3000 {
		r := draws(seed)
		s := ""
		for range r.IntN(6) {
			s += frame(drawn(r, 1+r.IntN(40)))
		}
		b := []byte(s)
		for range r.IntN(3) {
			i := r.IntN(len(b) + 1)
			j := min(len(b), i+r.IntN(4))
			b = slices.Concat(b[:i], []byte(drawn(r, 3)), b[j:])
		}
		if r.IntN(2) == 0 {
			b = append(b, drawn(r, 30)...)
		}
		l, n := scan(string(b))
		scans(t, string(b), l, n)
	}
}

// P5.1: all short bytes over some letters: a scan finds just what Frame answers for some record.
func TestScanAllShort(t *testing.T) {
	letters := []byte{0, 1, 2, 5, 6}
	level := []string{""}
	found := 0
	for range 8 {
		var next []string
		for _, s := range level {
			l, n := scan(s)
			scans(t, s, l, n)
			found += len(l)
			for _, c := range letters {
				next = append(next, s+string([]byte{c}))
			}
		}
		level = next
	}
	if found == 0 {
		t.Fatal("no frame was met")
	}
}

// made is a disk of that room, or the test's end.
func made(t *testing.T, room int) *disk.Disk {
	t.Helper()
	d, e := disk.New(room)
	if e != api.OK {
		t.Fatalf("New of %d answers %d", room, e)
	}
	return d
}

// laid is a disk whose file n has firm bytes, and soft ones behind them.
func laid(t *testing.T, n int, firm, soft string) *disk.Disk {
	t.Helper()
	d := made(t, api.MaxDisk)
	answers(t, "Replace", d.Replace(n, firm), api.OK)
	answers(t, "Append", d.Append(n, soft), api.OK)
	return d
}

// answers holds what a call answered against what it should.
func answers(t *testing.T, what string, got, want api.Errno) {
	t.Helper()
	if got != want {
		t.Errorf("%s answers %d, want %d", what, got, want)
	}
}

// opens is the log of a file that has just these records, or the test's end.
func opens(t *testing.T, d *disk.Disk, n int, want ...string) *wal.Log {
	t.Helper()
	w, l, e := wal.Open(d, n)
	if e != api.OK || w == nil || !slices.Equal(l, want) {
		t.Fatalf("Open of %d answers %v, %.60q, %d; want %.60q", n, w, l, e, want)
	}
	return w
}

// all are what a crash keeps that loses nothing.
func all() []int { return slices.Repeat([]int{api.MaxDisk}, api.MaxFiles) }

// refuses holds Open to an error, and nothing beside it.
func refuses(t *testing.T, d *disk.Disk, n int, want api.Errno) {
	t.Helper()
	if w, l, e := wal.Open(d, n); w != nil || len(l) != 0 || e != want {
		t.Errorf("Open of %d answers %v, %.60q, %d; want nothing and %d", n, w, l, e, want)
	}
}

// has holds a file to these bytes, and to these behind a crash that keeps nothing.
func has(t *testing.T, d *disk.Disk, n int, all, firm string) {
	t.Helper()
	if s, e := d.Read(n); e != api.OK || s != all {
		t.Errorf("file %d is %.60q, %d, want %.60q", n, s, e, all)
	}
	if s, e := d.Crash(nil).Read(n); e != api.OK || s != firm {
		t.Errorf("file %d is %.60q, %d behind a crash, want %.60q", n, s, e, firm)
	}
}

// burns holds a call to taking so many steps of the disk's fuel; the disk is off then: what a crash leaves is answered.
func burns(t *testing.T, what string, d *disk.Disk, steps int, call func()) *disk.Disk {
	t.Helper()
	const spare = 9
	d.Fuel(steps + spare)
	call()
	left := 0
	for d.Sync(d.Files()[0]) == api.OK {
		left++
	}
	if took := steps + spare - left; took != steps {
		t.Errorf("%s takes %d steps, want %d", what, took, steps)
	}
	return d.Crash(nil)
}

// P5.1: Open takes a file's number, 0 to 15, and no other: ErrArg, ahead of all else, and nothing is done.
func TestOpenNumbers(t *testing.T) {
	d := made(t, 1000)
	gone := made(t, 10)
	gone.Fuel(0)
	gone.Append(0, "")
	for _, n := range []int{math.MinInt, math.MinInt32, -2, -1, api.MaxFiles, api.MaxFiles + 1, 256, math.MaxInt32, math.MaxInt} {
		refuses(t, d, n, api.ErrArg)
		refuses(t, gone, n, api.ErrArg)
		refuses(t, nil, n, api.ErrArg)
	}
	if len(d.Files()) != 0 {
		t.Errorf("there are files %v", d.Files())
	}
	for n := range api.MaxFiles {
		answers(t, "Append", opens(t, d, n).Append(strings.Repeat("x", n)), api.OK)
		refuses(t, gone, n, api.ErrDown)
		refuses(t, nil, n, api.ErrDown)
	}
	for n := range api.MaxFiles {
		opens(t, d.Crash(nil), n, strings.Repeat("x", n))
	}
}

// P5.1: a file that isn't there is made, of nothing, firm: a Replace and, as nothing stands behind its records, a Sync.
func TestOpenNone(t *testing.T) {
	for _, room := range []int{0, 10} {
		d := made(t, room)
		burns(t, "Open of no file", d, 2, func() { opens(t, d, 3) })
		d = made(t, room)
		opens(t, d, 3)
		has(t, d, 3, "", "")
		if l := d.Files(); !slices.Equal(l, []int{3}) {
			t.Errorf("Files answers %v", l)
		}
	}
	for fuel := range 3 {
		d := made(t, 10)
		d.Fuel(fuel)
		if fuel == 2 {
			opens(t, d, 0)
			continue
		}
		refuses(t, d, 0, api.ErrDown)
		if !d.Off() || len(d.Files()) != fuel {
			t.Errorf("Open with fuel for %d steps leaves the disk off %v, with files %v", fuel, d.Off(), d.Files())
		}
	}
}

// P5.1: Open of a file of whole frames tells all its records, and makes them firm by a Sync.
func TestOpenWhole(t *testing.T) {
	for _, firm := range [][]string{nil, {"a"}, {"", "b\x00"}} {
		for _, soft := range [][]string{nil, {""}, {"c", span(300), ""}} {
			want := slices.Concat(firm, soft)
			d := laid(t, 5, framed(firm...), framed(soft...))
			burns(t, "Open", d, 1, func() { opens(t, d, 5, want...) })
			d = laid(t, 5, framed(firm...), framed(soft...))
			opens(t, d, 5, want...)
			has(t, d, 5, framed(want...), framed(want...))
			opens(t, d, 5, want...)
			opens(t, d.Crash(nil), 5, want...)
			d = laid(t, 5, framed(firm...), framed(soft...))
			d.Fuel(0)
			refuses(t, d, 5, api.ErrDown)
			has(t, d.Crash(all()), 5, framed(want...), framed(want...))
		}
	}
}

// P5.1: Open cuts off what stands behind the last record, by a Replace; the rest is firm then.
func TestOpenCuts(t *testing.T) {
	most := frame(span(api.MaxRecord + 1))
	for _, rest := range []string{"\x00", "x", "\x01\x01\x01\x01\x01", "\x06a\xc1\xd0\x43\x31\x00", "\x00" + frame("b"), "x" + framed("b", "c"), most, most + frame("b")} {
		for _, ahead := range [][]string{nil, {"a"}, {"", span(300)}} {
			want := framed(ahead...)
			for _, x := range []struct{ firm, soft string }{{want + rest, ""}, {want, rest}, {"", want + rest}, {want + rest[:1], rest[1:]}} {
				d := laid(t, 7, x.firm, x.soft)
				d.Append(1, "other")
				burns(t, "Open", d, 1, func() { opens(t, d, 7, ahead...) })
				d = laid(t, 7, x.firm, x.soft)
				d.Append(1, "other")
				w := opens(t, d, 7, ahead...)
				has(t, d, 7, want, want)
				if s, _ := d.Read(1); s != "other" || len(d.Crash(nil).Files()) != 1 {
					t.Errorf("the other file is %q, and firm", s)
				}
				answers(t, "Append", w.Append("b", "c"), api.OK)
				opens(t, d.Crash(nil), 7, append(slices.Clone(ahead), "b", "c")...)
				d = laid(t, 7, x.firm, x.soft)
				d.Fuel(0)
				refuses(t, d, 7, api.ErrDown)
				has(t, d.Crash(all()), 7, x.firm+x.soft, x.firm+x.soft)
			}
		}
	}
}

// P5.1: Append lays the frames of all records, in order, behind those that are there: one Append, and a Sync.
func TestAppend(t *testing.T) {
	d := made(t, api.MaxDisk)
	var want []string
	for _, l := range [][]string{{"a", "b"}, {}, {""}, nil, {"", "", "c\x00"}, {span(api.MaxRecord)}, {"d"}, {strings.Repeat("\x00", api.MaxRecord), "e"}} {
		w := opens(t, d, 2, want...)
		d = burns(t, "Append", d, 2, func() { answers(t, "Append", w.Append(l...), api.OK) })
		want = append(want, l...)
		opens(t, d, 2, want...)
	}
	d = made(t, api.MaxDisk)
	w := opens(t, d, 2)
	answers(t, "Append", w.Append(want...), api.OK)
	has(t, d, 2, framed(want...), framed(want...))
	opens(t, d, 2, want...)
	if l := d.Files(); !slices.Equal(l, []int{2}) {
		t.Errorf("Files answers %v", l)
	}
}

// P5.1: without a Sync behind it what Append laid is soft: any first bytes of it may be left.
func TestAppendWithoutFuel(t *testing.T) {
	for fuel := range 2 {
		d := made(t, 1000)
		w := opens(t, d, 0)
		answers(t, "Append", w.Append("a"), api.OK)
		d.Fuel(fuel)
		answers(t, "Append without fuel", w.Append("b", "c"), api.ErrDown)
		if !d.Off() || d.Used() != len(framed("a"))+fuel*len(framed("b", "c")) {
			t.Errorf("Append with fuel for %d steps leaves the disk off %v, with %d bytes", fuel, d.Off(), d.Used())
		}
		kept := framed("a") + strings.Repeat(framed("b", "c"), fuel)
		has(t, d.Crash(all()), 0, kept, kept)
		has(t, d.Crash(nil), 0, framed("a"), framed("a"))
		for range 3 {
			answers(t, "Append when off", w.Append(), api.ErrDown)
			answers(t, "Anew when off", w.Anew("d"), api.ErrDown)
			d.Fuel(-1)
		}
	}
}

// P5.1: the frames of one Append have room all together, or none is laid; up to the last byte.
func TestAppendFull(t *testing.T) {
	room := len(framed("abc", "", "d"))
	d := made(t, room+5)
	answers(t, "Append", d.Append(9, "other"), api.OK)
	w := opens(t, d, 0)
	d.Fuel(2)
	answers(t, "Append of too much", w.Append("abc", "", "d", ""), api.ErrFull)
	answers(t, "Append of a byte too much", w.Append("abc", "", "de"), api.ErrFull)
	has(t, d, 0, "", "")
	answers(t, "Append of all", w.Append("abc", "", "d"), api.OK)
	has(t, d, 0, framed("abc", "", "d"), framed("abc", "", "d"))
	d.Fuel(-1)
	answers(t, "Append to a full one", w.Append(""), api.ErrFull)
	answers(t, "Append of nothing", w.Append(), api.OK)
	d.Fuel(0)
	answers(t, "Append of nothing", w.Append(), api.ErrDown)
	answers(t, "Append when off", w.Append(""), api.ErrDown)
}

// P5.1: what is no record is ErrLong, ahead of what the disk would say, and nothing is done with the others either.
func TestLong(t *testing.T) {
	most := span(api.MaxRecord)
	lists := [][]string{{most + "x"}, {"a", most + "x"}, {most + "x", "a"}, {"a", span(3 * api.MaxRecord), "b"}, {most, most, most + "\x00"}}
	for _, l := range lists {
		d := made(t, 6*api.MaxRecord)
		answers(t, "Append", opens(t, d, 0).Append("z"), api.OK)
		w := opens(t, d, 0, "z")
		d = burns(t, "Append", d, 0, func() { answers(t, "Append", w.Append(l...), api.ErrLong) })
		w = opens(t, d, 0, "z")
		d = burns(t, "Anew", d, 0, func() { answers(t, "Anew", w.Anew(l...), api.ErrLong) })
		has(t, d, 0, frame("z"), frame("z"))
	}
	small := made(t, 10)
	w := opens(t, small, 0)
	for _, l := range lists {
		answers(t, "Append without room", w.Append(l...), api.ErrLong)
		answers(t, "Anew without room", w.Anew(l...), api.ErrLong)
	}
	answers(t, "Append of a record without room", w.Append(most), api.ErrFull)
	answers(t, "Anew of a record without room", w.Anew(most), api.ErrFull)
	small.Fuel(0)
	for _, l := range lists {
		answers(t, "Append without fuel", w.Append(l...), api.ErrLong)
	}
	if small.Off() {
		t.Error("a step was made")
	}
	answers(t, "Anew without fuel", w.Anew(), api.ErrDown)
	for _, l := range lists {
		answers(t, "Append when off", w.Append(l...), api.ErrLong)
		answers(t, "Anew when off", w.Anew(l...), api.ErrLong)
	}
}

// P5.1: Anew leaves just the frames of its records, in order, firm, by one step.
func TestAnew(t *testing.T) {
	d := made(t, api.MaxDisk)
	there := []string{"a", "b"}
	answers(t, "Append", opens(t, d, 4).Append(there...), api.OK)
	for _, l := range [][]string{{"z"}, {}, {"", "y\x00", ""}, nil, {span(api.MaxRecord), "x"}} {
		w := opens(t, d, 4, there...)
		d = burns(t, "Anew", d, 1, func() { answers(t, "Anew", w.Anew(l...), api.OK) })
		has(t, d, 4, framed(l...), framed(l...))
		w = opens(t, d, 4, l...)
		answers(t, "Anew", w.Anew(l...), api.OK)
		answers(t, "Append", w.Append("more", ""), api.OK)
		there = append(slices.Clone(l), "more", "")
		opens(t, d.Crash(nil), 4, there...)
	}
}

// P5.1, P5.2: an Anew without fuel, or without room beside other files, does nothing.
func TestAnewWhollyOrNot(t *testing.T) {
	d := made(t, len(framed("ab", "c"))+5)
	answers(t, "Append", d.Append(9, "other"), api.OK)
	w := opens(t, d, 0)
	answers(t, "Append", w.Append("a", "b"), api.OK)
	was := framed("a", "b")
	for _, l := range [][]string{{"ab", "cd"}, {"a", "b", ""}, {span(100)}} {
		d.Fuel(5)
		answers(t, "Anew of too much", w.Anew(l...), api.ErrFull)
		has(t, d, 0, was, was)
	}
	answers(t, "Anew of all there is room for", w.Anew("ab", "c"), api.OK)
	was = framed("ab", "c")
	has(t, d, 0, was, was)
	d.Fuel(0)
	answers(t, "Anew without fuel", w.Anew("z"), api.ErrDown)
	has(t, d.Crash(nil), 0, was, was)
	has(t, d.Crash([]int{9}), 0, was, was)
}

// P5.1: of a nil log: ErrDown, whatever the records are.
func TestNil(t *testing.T) {
	var w *wal.Log
	for _, l := range [][]string{nil, {""}, {"a", "b"}, {span(api.MaxRecord)}, {span(api.MaxRecord + 1)}} {
		answers(t, "Append", w.Append(l...), api.ErrDown)
		answers(t, "Anew", w.Anew(l...), api.ErrDown)
	}
}

// P0: a log that Open didn't make panics neither.
func TestUnmade(t *testing.T) {
	w := new(wal.Log)
	for _, l := range [][]string{nil, {""}, {span(api.MaxRecord + 1)}} {
		w.Append(l...)
		w.Anew(l...)
	}
}

// P0: many frames, and many bytes that are none, end in time.
func TestManyEnd(t *testing.T) {
	const many = 200000
	empty := wal.Frame("")
	s := strings.Repeat(empty, many)
	if l, n := wal.Scan(s); len(l) != many || n != len(s) {
		t.Errorf("Scan answers %d records, %d", len(l), n)
	}
	for _, c := range []string{"\x00", "\x01", "\xff", "x"} {
		rest := strings.Repeat(c, 1<<24)
		scans(t, rest, nil, 0)
		scans(t, empty+rest, []string{""}, len(empty))
	}
	if got := wal.Frame(strings.Repeat("\x00", 1<<24)); len(got) != 1<<24+6 {
		t.Errorf("Frame answers %d bytes", len(got))
	}
	l := make([]string, many)
	w := opens(t, made(t, api.MaxDisk), 0)
	answers(t, "Append", w.Append(l...), api.ErrFull)
	answers(t, "Append", w.Append(l[:api.MaxDisk/6]...), api.OK)
	answers(t, "Anew", w.Anew(l...), api.ErrFull)
}

// Rule 4: a list that is handed in isn't changed, nor the room behind it, and isn't kept.
func TestHandedInStays(t *testing.T) {
	d := made(t, 1000)
	w := opens(t, d, 0)
	for i, call := range []func(...string) api.Errno{w.Append, w.Anew} {
		room := []string{"a", "", "c", "d", "e"}
		answers(t, "the call", call(room[:3]...), api.OK)
		if !slices.Equal(room, []string{"a", "", "c", "d", "e"}) {
			t.Errorf("call %d has changed its list: %q", i, room)
		}
		clear(room)
		opens(t, d, 0, "a", "", "c")
	}
	_, l, _ := wal.Open(d, 0)
	for i := range l[:cap(l)] {
		l[:cap(l)][i] = "other"
	}
	opens(t, d, 0, "a", "", "c")
}

// Rule 8: logs of other files, and of other disks, have nothing in common with a log.
func TestApart(t *testing.T) {
	one, other := made(t, 1000), made(t, 1000)
	logs := []*wal.Log{opens(t, one, 0), opens(t, one, 1), opens(t, other, 0)}
	for i, w := range logs {
		name := string(rune('a' + i))
		answers(t, "Append", w.Append(name), api.OK)
		answers(t, "Append", w.Append(name+name), api.OK)
	}
	answers(t, "Anew", logs[1].Anew("z"), api.OK)
	opens(t, one, 0, "a", "aa")
	opens(t, one, 1, "z")
	opens(t, other, 0, "c", "cc")
	one.Fuel(0)
	answers(t, "Append without fuel", logs[0].Append("x"), api.ErrDown)
	answers(t, "Append to another disk", logs[2].Append("x"), api.OK)
	opens(t, other, 0, "c", "cc", "x")
}

// P5.2: behind a crash at any step of an Append, and at any byte of what was soft, all records that were answered with
// OK are there, and of those that weren't some first ones: just those whose frames are whole.
func TestCrashAtAnyByte(t *testing.T) {
	sure, more := []string{"a", "", "b\x00"}, []string{"c\x00d", "", span(260), "e"}
	for fuel := range 3 {
		d := made(t, 1000)
		answers(t, "Append", opens(t, d, 3).Append(sure...), api.OK)
		w := opens(t, d, 3, sure...)
		d.Fuel(fuel)
		e := w.Append(more...)
		for keep := -1; keep <= len(framed(more...))+1; keep++ {
			whole := 0
			for whole < len(more) && fuel > 0 && len(framed(more[:whole+1]...)) <= keep {
				whole++
			}
			if e == api.OK {
				whole = len(more)
			}
			left := d.Crash([]int{9, 9, 9, keep})
			want := slices.Concat(sure, more[:whole])
			opens(t, left, 3, want...)
			has(t, left, 3, framed(want...), framed(want...))
			again := opens(t, left.Crash(nil), 3, want...)
			if again.Anew("z") != api.OK {
				t.Fatal("no log behind a crash")
			}
		}
		if want := map[bool]api.Errno{true: api.OK, false: api.ErrDown}[fuel == 2]; e != want {
			t.Errorf("Append with fuel for %d steps answers %d", fuel, e)
		}
	}
}

// P5.2: long ways to go, with crashes at any step: each time there is what was answered with OK, and no more than some
// first records of the one Append that wasn't; an Anew that wasn't did nothing.
func TestCrashesOnTheWay(t *testing.T) {
	for seed := range 400 {
		r := draws(10000 + seed)
		d := made(t, 100+r.IntN(2000))
		d.Append(1, drawn(r, 50))
		var sure, perhaps []string
		for range 30 {
			w, l, e := wal.Open(d, 0)
			if e == api.OK {
				if len(l) < len(sure) || !slices.Equal(l, slices.Concat(sure, perhaps)[:len(l)]) {
					t.Fatalf("way %d: there are %.80q, want %.80q and some first of %.80q", seed, l, sure, perhaps)
				}
				sure, perhaps = l, nil
			}
			if r.IntN(2) == 0 {
				d.Fuel(r.IntN(12))
			}
			for !d.Off() && e == api.OK && r.IntN(8) > 0 {
				l := make([]string, r.IntN(4))
				for i := range l {
					l[i] = drawn(r, 80)
				}
				anew := r.IntN(4) == 0
				call := w.Append
				if anew {
					call = w.Anew
				}
				switch e := call(l...); {
				case e == api.OK && anew:
					sure = slices.Clone(l)
				case e == api.OK:
					sure = slices.Concat(sure, l)
				case e == api.ErrDown && !anew:
					perhaps = l
				case e != api.ErrDown && e != api.ErrFull:
					t.Fatalf("way %d: a call answers %d", seed, e)
				}
			}
			d = d.Crash([]int{r.IntN(300) - 20, r.IntN(20)})
		}
	}
}

// P5.2: what a scan takes for a record was laid as one: bytes of a record that look like frames are none.
func TestRecordsOfFrames(t *testing.T) {
	inner := framed("a", "b") + "\x00"
	d := made(t, 1000)
	w := opens(t, d, 0)
	answers(t, "Append", w.Append(inner), api.OK)
	d.Fuel(1)
	answers(t, "Append", w.Append(inner+inner, inner), api.ErrDown)
	soft := framed(inner+inner, inner)
	for keep := range len(soft) {
		want := []string{inner}
		if keep >= len(frame(inner+inner)) {
			want = append(want, inner+inner)
		}
		opens(t, d.Crash([]int{keep}), 0, want...)
	}
	if bytes.Count([]byte(soft), []byte{0}) != 2 {
		t.Error("there are more zeros than frames")
	}
}
