package session_test

import (
	"fmt"
	"math"
	"math/big"
	"math/rand/v2"
	"slices"
	"strings"
	"testing"

	"tontine/api"
	"tontine/pack"
	"tontine/session"
)

// The chapter's numbers.
const (
	most    = 16
	life    = 1000
	full    = 11
	expired = 40
	stale   = 41
	top     = math.MaxUint64
)

// A paper is a table as the chapter's words have it, by another way than the program's: sums don't wrap, and sessions stand in a map.
type paper struct {
	now, next uint64
	rows      map[uint64]session.Row
}

// blank: the paper of a new table.
func blank() *paper { return &paper{next: 1, rows: map[uint64]session.Row{}} }

// paperOf: a paper of any sessions, that can be or not.
func paperOf(now, next uint64, l ...session.Row) *paper {
	p := &paper{now: now, next: next, rows: map[uint64]session.Row{}}
	for _, x := range l {
		p.rows[x.Id] = x
	}
	return p
}

// apart: how far a is above b, below 0 if it isn't.
func apart(a, b uint64) *big.Int {
	return new(big.Int).Sub(new(big.Int).SetUint64(a), new(big.Int).SetUint64(b))
}

// isOne, isAbove: of what apart answers.
func isOne(x *big.Int) bool            { return x.Cmp(big.NewInt(1)) == 0 }
func isAbove(x *big.Int, n int64) bool { return x.Cmp(big.NewInt(n)) > 0 }

func (p *paper) clock(now uint64) {
	if !isAbove(apart(now, p.now), 0) {
		return
	}
	p.now = now
	for id, x := range p.rows {
		if isAbove(apart(now, x.Used), life) {
			delete(p.rows, id)
		}
	}
}

func (p *paper) register() (uint64, api.Errno) {
	if len(p.rows) >= most || p.next == top {
		return 0, full
	}
	id := p.next
	p.rows[id] = session.Row{Id: id, Used: p.now}
	p.next = id + 1
	return id, 0
}

func (p *paper) begin(id, seq uint64) (api.Reply, bool) {
	x, ok := p.rows[id]
	if !ok {
		return api.Reply{Err: expired}, false
	}
	x.Used = p.now
	p.rows[id] = x
	if seq == 0 {
		return api.Reply{Err: stale}, false
	}
	if seq == x.Seq {
		return x.Reply, false
	}
	if !isOne(apart(seq, x.Seq)) {
		return api.Reply{Err: stale}, false
	}
	return api.Reply{}, true
}

func (p *paper) end(id, seq uint64, y api.Reply) bool {
	x, ok := p.rows[id]
	if !ok || seq == 0 || !isOne(apart(seq, x.Seq)) {
		return false
	}
	x.Seq, x.Reply = seq, y
	p.rows[id] = x
	return true
}

func (p *paper) list() []session.Row {
	var l []session.Row
	for _, x := range p.rows {
		l = append(l, x)
	}
	slices.SortFunc(l, func(a, b session.Row) int { return apart(a.Id, b.Id).Sign() })
	return l
}

// numberBytes are a number's bytes by layer 3's words, by another way than the program's.
func numberBytes(x uint64) string {
	b := new(big.Int).SetUint64(x).Bytes() // the highest first, the first of them not 0
	return string(append([]byte{byte(len(b))}, b...))
}

// unsigned: x, or 2^64 and x, if it is below 0.
func unsigned(x int) uint64 {
	n := big.NewInt(int64(x))
	if x < 0 {
		n.Add(n, new(big.Int).Lsh(big.NewInt(1), 64))
	}
	return n.Uint64()
}

// laid: the bytes of a time, a next number and sessions in any order, by the chapter's words, a number each.
func laid(now, next uint64, l []session.Row) []string {
	out := []string{numberBytes(now), numberBytes(next), numberBytes(uint64(len(l)))}
	for _, x := range l {
		for _, n := range []uint64{x.Id, x.Used, x.Seq, unsigned(int(x.Reply.Err)), x.Reply.Num, x.Reply.Extra} {
			out = append(out, numberBytes(n))
		}
	}
	return out
}

func (p *paper) fields() []string { return laid(p.now, p.next, p.list()) }

func (p *paper) bytes() string { return strings.Join(p.fields(), "") }

// written: the bytes that Write lays on a new writer.
func written(x *session.Table) string {
	w := new(pack.Writer)
	x.Write(w)
	return w.Bytes()
}

// brief: what a test tells of anything, which may be much.
func brief(x any) string {
	s := fmt.Sprintf("%+q", fmt.Sprintf("%+v", x))
	return s[:min(len(s), 400)]
}

// holdTable holds Now, Rows and Write to the words, twice: asking changes nothing.
func holdTable(t *testing.T, x *session.Table, p *paper) {
	t.Helper()
	for range 2 {
		if x.Now() != p.now {
			t.Fatalf("Now answers %d, want %d", x.Now(), p.now)
		}
		if got := x.Rows(); !slices.Equal(got, p.list()) {
			t.Fatalf("Rows answers %s, want %s", brief(got), brief(p.list()))
		}
		if got := written(x); got != p.bytes() {
			t.Fatalf("Write lays %s, want %s", brief(got), brief(p.bytes()))
		}
	}
}

// A move is a call that may change a table.
type move struct {
	kind    byte // c Clock, r Register, b Begin, e End
	id, seq uint64
	y       api.Reply
}

// brings holds a move's answer to the words, and tells whether Begin found the command new.
func brings(t *testing.T, x *session.Table, p *paper, m move) bool {
	t.Helper()
	switch m.kind {
	case 'c':
		x.Clock(m.id)
		p.clock(m.id)
	case 'r':
		id, e := x.Register()
		if wantId, want := p.register(); id != wantId || e != want {
			t.Fatalf("Register answers %d, %d, want %d, %d", id, int(e), wantId, int(want))
		}
	case 'b':
		y, fresh := x.Begin(m.id, m.seq)
		if want, wantFresh := p.begin(m.id, m.seq); y != want || fresh != wantFresh {
			t.Fatalf("Begin(%d, %d) answers %+v, %v, want %+v, %v", m.id, m.seq, y, fresh, want, wantFresh)
		}
		return fresh
	case 'e':
		ok := x.End(m.id, m.seq, m.y)
		if want := p.end(m.id, m.seq, m.y); ok != want {
			t.Fatalf("End(%d, %d, %+v) answers %v, want %v", m.id, m.seq, m.y, ok, want)
		}
	}
	return false
}

// hold holds a move's answer, and the table behind it, to the words.
func hold(t *testing.T, x *session.Table, p *paper, m move) bool {
	t.Helper()
	fresh := brings(t, x, p, m)
	holdTable(t, x, p)
	return fresh
}

// tableOf: the table that a paper says, by its bytes.
func tableOf(t *testing.T, p *paper) *session.Table {
	t.Helper()
	x := session.Read(pack.From(p.bytes()))
	if x == nil {
		t.Fatalf("%s isn't read", brief(p))
	}
	holdTable(t, x, p)
	return x
}

// copyOf: a paper of its own.
func copyOf(p *paper) *paper { return paperOf(p.now, p.next, p.list()...) }

// draws gives numbers that look like chance and are the same each time.
func draws(seed int) *rand.Rand { return rand.New(rand.NewPCG(uint64(seed), 15)) }

// replies: some of each kind.
func replies() []api.Reply {
	return []api.Reply{{}, {Err: api.ErrTwice, Num: 3}, {Num: 1, Extra: 2}, {Err: stale}, {Err: expired, Num: top, Extra: top}, {Err: 52, Num: 1 << 63, Extra: 256}}
}

// edges: numbers around those at which something changes.
func edges() []uint64 {
	return []uint64{0, 1, 2, 3, 255, 256, 257, 999, 1000, 1001, 1002, 65535, 65536, math.MaxInt32, math.MaxUint32, 1 << 32, 1<<32 + 1, 1<<63 - 1, 1 << 63, 1<<63 + 1, top - 1002, top - 1001, top - 1000, top - 2, top - 1, top}
}

// P15.1: the chapter's example.
func TestExample(t *testing.T) {
	x := session.New()
	y := api.Reply{Num: 1, Extra: 2}
	if id, e := x.Register(); id != 1 || e != api.OK {
		t.Fatalf("Register answers %d, %d", id, int(e))
	}
	if got, fresh := x.Begin(1, 1); got != (api.Reply{}) || !fresh {
		t.Fatalf("Begin(1, 1) answers %+v, %v", got, fresh)
	}
	if !x.End(1, 1, y) {
		t.Fatal("End(1, 1) answers false")
	}
	for i, c := range []struct {
		id, seq uint64
		want    api.Reply
	}{{1, 1, y}, {1, 3, api.Reply{Err: api.ErrStale}}, {2, 1, api.Reply{Err: api.ErrExpired}}} {
		if got, fresh := x.Begin(c.id, c.seq); got != c.want || fresh {
			t.Fatalf("%d: Begin(%d, %d) answers %+v, %v", i, c.id, c.seq, got, fresh)
		}
	}
}

// P15.1: a run and its bytes, written out by hand.
func TestWrittenOut(t *testing.T) {
	x := session.New()
	hold := func(i int, want string, rows ...session.Row) {
		t.Helper()
		if got := written(x); got != want {
			t.Fatalf("%d: Write lays %s, want %s", i, brief(got), brief(want))
		}
		if !slices.Equal(x.Rows(), rows) {
			t.Fatalf("%d: Rows answers %s, want %s", i, brief(x.Rows()), brief(rows))
		}
	}
	hold(0, "\x00"+"\x01\x01"+"\x00")
	x.Clock(300)
	hold(1, "\x02\x01\x2c"+"\x01\x01"+"\x00")
	x.Register()
	hold(2, "\x02\x01\x2c"+"\x01\x02"+"\x01\x01"+"\x01\x01"+"\x02\x01\x2c"+"\x00\x00\x00\x00", session.Row{Id: 1, Used: 300})
	x.Begin(1, 1)
	x.End(1, 1, api.Reply{Err: api.ErrTwice, Num: 256, Extra: 7})
	x.Clock(301)
	x.Register()
	hold(3, "\x02\x01\x2d"+"\x01\x03"+"\x01\x02"+
		"\x01\x01"+"\x02\x01\x2c"+"\x01\x01"+"\x01\x2a"+"\x02\x01\x00"+"\x01\x07"+
		"\x01\x02"+"\x02\x01\x2d"+"\x00\x00\x00\x00",
		session.Row{Id: 1, Used: 300, Seq: 1, Reply: api.Reply{Err: 42, Num: 256, Extra: 7}}, session.Row{Id: 2, Used: 301})
	x.Clock(1300)
	if len(x.Rows()) != 2 {
		t.Fatal("a session of age 1000 is gone")
	}
	x.Clock(1301)
	hold(4, "\x02\x05\x15"+"\x01\x03"+"\x01\x01"+"\x01\x02"+"\x02\x01\x2d"+"\x00\x00\x00\x00", session.Row{Id: 2, Used: 301})
	x.End(2, 1, api.Reply{Err: -1})
	hold(5, "\x02\x05\x15"+"\x01\x03"+"\x01\x01"+"\x01\x02"+"\x02\x01\x2d"+"\x01\x01"+"\x08\xff\xff\xff\xff\xff\xff\xff\xff"+"\x00\x00",
		session.Row{Id: 2, Used: 301, Seq: 1, Reply: api.Reply{Err: -1}})
}

// P15.1: a new table has time 0, next number 1 and no sessions, and is another one each time.
func TestNew(t *testing.T) {
	a, b := session.New(), session.New()
	holdTable(t, a, blank())
	p := blank()
	hold(t, a, p, move{kind: 'c', id: 7})
	hold(t, a, p, move{kind: 'r'})
	holdTable(t, b, blank())
	holdTable(t, session.New(), blank())
}

// registers holds Register to the numbers that are wanted, one by one; behind them it answers ErrFull, however often it is asked.
func registers(t *testing.T, x *session.Table, p *paper, want ...uint64) {
	t.Helper()
	for _, n := range want {
		if id, e := x.Register(); id != n || e != api.OK {
			t.Fatalf("Register answers %d, %d, want %d", id, int(e), n)
		}
		p.register()
		holdTable(t, x, p)
	}
	for range 3 {
		if id, e := x.Register(); id != 0 || e != api.ErrFull {
			t.Fatalf("Register answers %d, %d where no session can be added", id, int(e))
		}
		holdTable(t, x, p)
	}
}

// P15.1: 16 sessions there may be; no number comes again, and a place that is free again is used.
func TestRegister(t *testing.T) {
	x, p := session.New(), blank()
	for n := uint64(1); n < 16; n++ {
		hold(t, x, p, move{kind: 'c', id: n})
		hold(t, x, p, move{kind: 'r'})
	}
	hold(t, x, p, move{kind: 'c', id: 16})
	registers(t, x, p, 16)
	hold(t, x, p, move{kind: 'b', id: 3, seq: 1}) // so that it outlives those around it
	hold(t, x, p, move{kind: 'c', id: 1006})      // 1, 2, 4 and 5 are gone
	registers(t, x, p, 17, 18, 19, 20)
	if l := x.Rows(); len(l) != 16 || l[0].Id != 3 || l[15].Id != 20 {
		t.Fatalf("Rows answers %s", brief(l))
	}
}

// P15.1: the last number that a session gets is 2^64 - 2; behind it even an empty table takes none.
func TestRegisterLast(t *testing.T) {
	p := paperOf(5, top-2)
	x := tableOf(t, p)
	registers(t, x, p, top-2, top-1)
	hold(t, x, p, move{kind: 'c', id: top})
	if len(x.Rows()) != 0 {
		t.Fatalf("Rows answers %s", brief(x.Rows()))
	}
	registers(t, x, p)
}

// P15.1: Clock at all times around the edges, of sessions of all ages around 1000; what isn't above the time does nothing.
func TestClock(t *testing.T) {
	for _, at := range []uint64{0, 1, 500, 999, 1000, 1001, 5000, 1 << 32, 1<<63 - 500, 1 << 63, top - 1500, top - 1001, top - 1000, top - 999, top - 1, top} {
		p := paperOf(at, 40)
		for i, age := range []uint64{1000, 0, 999, 1, 500, 998, 1000, 2, 501} { // in the order of numbers, not of ages
			if age <= at {
				id := uint64(3*i + 2)
				p.rows[id] = session.Row{Id: id, Used: at - age, Seq: id, Reply: api.Reply{Num: id}}
			}
		}
		for _, by := range []uint64{0, 1, 2, 3, 499, 500, 501, 998, 999, 1000, 1001, 1002, 5000, 1 << 33} {
			hold(t, tableOf(t, p), copyOf(p), move{kind: 'c', id: at + by}) // wraps below the time where it is late
			hold(t, tableOf(t, p), copyOf(p), move{kind: 'c', id: at - by})
		}
		for _, now := range edges() {
			hold(t, tableOf(t, p), copyOf(p), move{kind: 'c', id: now})
		}
	}
}

// P15.1: unit by unit, each session is there for just 1000 units behind its last use.
func TestLife(t *testing.T) {
	x, p := session.New(), blank()
	for now := uint64(0); now <= 2600; now++ {
		hold(t, x, p, move{kind: 'c', id: now})
		if now%100 == 0 && now < 1000 {
			hold(t, x, p, move{kind: 'r'})
		}
		if now == 900 {
			hold(t, x, p, move{kind: 'b', id: 1, seq: 1})
			hold(t, x, p, move{kind: 'b', id: 2, seq: 9})
			hold(t, x, p, move{kind: 'e', id: 3, seq: 1})
		}
		for _, row := range x.Rows() {
			if now > row.Used+1000 {
				t.Fatalf("at %d there is %+v", now, row)
			}
		}
		there := len(x.Rows())
		if want, ok := map[uint64]int{899: 9, 900: 10, 1000: 10, 1200: 10, 1201: 9, 1301: 8, 1899: 3, 1900: 3, 1901: 0}[now]; ok && there != want {
			t.Fatalf("at %d there are %d sessions, want %d", now, there, want)
		}
	}
}

// P15.1: to be answered is no use, nor is to be shown: only Begin keeps a session there, whatever it answers.
func TestUse(t *testing.T) {
	for i, c := range []struct {
		m    move
		used uint64
	}{
		{move{kind: 'b', id: 2, seq: 6}, 900}, {move{kind: 'b', id: 2, seq: 5}, 900}, {move{kind: 'b', id: 2, seq: 4}, 900}, {move{kind: 'b', id: 2, seq: 0}, 900},
		{move{kind: 'b', id: 2, seq: 7}, 900}, {move{kind: 'b', id: 2, seq: top}, 900}, {move{kind: 'b', id: 3, seq: 6}, 50}, {move{kind: 'b', id: 0, seq: 0}, 50},
		{move{kind: 'e', id: 2, seq: 6}, 50}, {move{kind: 'e', id: 2, seq: 5}, 50}, {move{kind: 'r'}, 50}, {move{kind: 'c', id: 901}, 50}, {move{kind: 'c', id: 50}, 50},
	} {
		p := paperOf(900, 5, session.Row{Id: 2, Used: 50, Seq: 5}, session.Row{Id: 4, Used: 60})
		x := tableOf(t, p)
		hold(t, x, p, c.m)
		if l := x.Rows(); l[0].Id != 2 || l[0].Used != c.used || l[1].Used != 60 {
			t.Errorf("move %d: %s", i, brief(l))
		}
	}
}

// P15.1: Begin and End of each number, at each last number, around the edges.
func TestNumbers(t *testing.T) {
	for _, last := range edges() {
		for _, y := range replies() {
			p := paperOf(70, 9, session.Row{Id: 3, Used: 60, Seq: last, Reply: y}, session.Row{Id: 5, Used: 61, Seq: last + 1, Reply: api.Reply{Num: 77}})
			fresh, ended := 0, 0
			for _, seq := range append(edges(), last-2, last-1, last, last+1, last+2) {
				x := tableOf(t, p)
				if hold(t, x, copyOf(p), move{kind: 'b', id: 3, seq: seq}) {
					fresh++
				}
				q := copyOf(p)
				x = tableOf(t, p)
				hold(t, x, q, move{kind: 'e', id: 3, seq: seq, y: api.Reply{Err: 11, Num: 8, Extra: 9}})
				if x.Rows()[0].Reply.Num == 8 {
					ended++
				}
				hold(t, x, q, move{kind: 'b', id: 3, seq: seq})
				hold(t, x, q, move{kind: 'e', id: 3, seq: seq, y: api.Reply{Err: 12}})
			}
			if last == top && (fresh != 0 || ended != 0) || last != top && (fresh == 0 || fresh != ended) {
				t.Fatalf("behind %d %d numbers are new, and %d end", last, fresh, ended)
			}
		}
	}
}

// P15.1: sessions that aren't there, around those that are.
func TestNoSession(t *testing.T) {
	p := paperOf(70, top-1, session.Row{Id: 3, Used: 60, Seq: 1}, session.Row{Id: 5, Used: 61}, session.Row{Id: top - 2, Used: 62})
	for _, id := range append(edges(), 3, 4, 5, 6) {
		for _, seq := range []uint64{0, 1, 2, 3, top} {
			there := id == 3 || id == 5 || id == top-2
			x := tableOf(t, p)
			if y, fresh := x.Begin(id, seq); !there && (y != api.Reply{Err: api.ErrExpired} || fresh) {
				t.Fatalf("Begin(%d, %d) answers %+v, %v", id, seq, y, fresh)
			}
			hold(t, tableOf(t, p), copyOf(p), move{kind: 'b', id: id, seq: seq})
			hold(t, tableOf(t, p), copyOf(p), move{kind: 'e', id: id, seq: seq, y: api.Reply{Num: 4}})
		}
	}
	x, q := tableOf(t, p), copyOf(p)
	hold(t, x, q, move{kind: 'c', id: 1062})
	for _, id := range []uint64{3, 5, top - 2} { // the first two are gone now
		hold(t, x, q, move{kind: 'b', id: id, seq: 2})
		hold(t, x, q, move{kind: 'e', id: id, seq: 2, y: api.Reply{Num: 4}})
	}
}

// P15.1: End takes any reply, and Begin answers it as it was.
func TestAnyReply(t *testing.T) {
	x, p := session.New(), blank()
	hold(t, x, p, move{kind: 'r'})
	seq := uint64(0)
	for _, e := range []api.Errno{0, 1, 2, 40, 41, 51, 52, 53, 255, 256, 1 << 32, math.MaxInt, -1, -2, -52, -256, math.MinInt + 1, math.MinInt} {
		for _, n := range []uint64{0, 1, 255, 256, 1 << 63, top} {
			seq++
			y := api.Reply{Err: e, Num: n, Extra: ^n}
			hold(t, x, p, move{kind: 'b', id: 1, seq: seq})
			hold(t, x, p, move{kind: 'e', id: 1, seq: seq, y: y})
			if got, fresh := x.Begin(1, seq); got != y || fresh {
				t.Fatalf("Begin answers %+v, %v, want %+v", got, fresh, y)
			}
			if read := session.Read(pack.From(written(x))) != nil; read != (e >= 0 && e <= 52) {
				t.Fatalf("a table with the error %d is read: %v", int(e), read)
			}
		}
	}
}

// steps: what may come in a small run, of two sessions.
func steps() []move {
	l := []move{{kind: 'r'}, {kind: 'c', id: 1000}, {kind: 'c', id: 1001}, {kind: 'c', id: 2001}}
	for id := uint64(1); id <= 2; id++ {
		for seq := range uint64(3) {
			l = append(l, move{kind: 'b', id: id, seq: seq}, move{kind: 'e', id: id, seq: seq, y: api.Reply{Num: id, Extra: seq}})
		}
	}
	return l
}

// P15.1: all small runs; what a table answers hangs on the calls before alone.
func TestAllRuns(t *testing.T) {
	all := steps()
	depth, run := 5, make([]int, 5)
	for more := true; more; {
		x, p := session.New(), blank()
		for _, i := range run {
			brings(t, x, p, all[i])
		}
		if !slices.Equal(x.Rows(), p.list()) || x.Now() != p.now {
			t.Fatalf("run %v brings %s at %d, want %s", run, brief(x.Rows()), x.Now(), brief(p))
		}
		more = false
		for k := depth - 1; k >= 0 && !more; k-- {
			run[k] = (run[k] + 1) % len(all)
			more = run[k] != 0
		}
	}
}

// anyMove draws a move that more often than not does something.
func anyMove(r *rand.Rand, p *paper) move {
	l := p.list()
	x := session.Row{Id: r.Uint64N(20)}
	if len(l) > 0 && r.IntN(10) != 0 {
		x = l[r.IntN(len(l))]
	}
	seq := x.Seq + 1
	switch r.IntN(6) {
	case 0:
		seq = x.Seq
	case 1:
		seq = x.Seq + r.Uint64N(7) - 3
	}
	switch r.IntN(12) {
	case 0, 1:
		return move{kind: 'r'}
	case 2:
		return move{kind: 'c', id: p.now + r.Uint64N(40)}
	case 3:
		return move{kind: 'c', id: p.now + []uint64{0, 1, 200, 600, 1000, 1001, top}[r.IntN(7)]}
	case 4, 5, 6, 7:
		return move{kind: 'b', id: x.Id, seq: seq}
	}
	return move{kind: 'e', id: x.Id, seq: seq, y: api.Reply{Err: api.Errno(r.IntN(53)), Num: r.Uint64() >> r.IntN(64), Extra: r.Uint64N(65)}}
}

// P15.1: long runs that look like chance; what is written on the way is read as the same table, which goes on the same.
func TestLongRuns(t *testing.T) {
	r := draws(1)
	gone, filled := 0, 0
	for range 60 {
		x, p := session.New(), blank()
		for range 600 {
			m := anyMove(r, p)
			before := len(p.rows)
			hold(t, x, p, m)
			if len(p.rows) < before {
				gone++
			}
			if m.kind == 'r' && before == most {
				filled++
			}
			if r.IntN(20) == 0 {
				x = tableOf(t, p)
			}
		}
	}
	if gone < 100 || filled < 100 {
		t.Errorf("too few sessions ended (%d), or too few tables were full (%d)", gone, filled)
	}
}

// P15.1: the same from times and numbers near their ends, where sums could wrap.
func TestLateRuns(t *testing.T) {
	r := draws(2)
	for range 60 {
		now, next := top-r.Uint64N(3000), top-r.Uint64N(30)
		p := paperOf(now, next)
		for range r.IntN(most + 1) {
			id := next - 1 - r.Uint64N(40)
			p.rows[id] = session.Row{Id: id, Used: now - r.Uint64N(1001), Seq: top - r.Uint64N(6), Reply: replies()[r.IntN(6)]}
		}
		x := tableOf(t, p)
		for range 300 {
			hold(t, x, p, anyMove(r, p))
		}
	}
}

// P15.2: each number of a session is new once at most, behind that its reply is the same till the next one, however often it is sent and whatever comes between.
func TestOnce(t *testing.T) {
	r := draws(3)
	type key struct{ id, seq uint64 }
	for range 100 {
		x := session.New()
		done := map[key]int{}       // how often it was new
		told := map[key]api.Reply{} // its reply
		last := map[uint64]uint64{} // a session's last number
		now, work := uint64(0), uint64(0)
		for range 2000 {
			switch r.IntN(40) {
			case 0:
				if id, e := x.Register(); e == api.OK {
					if _, ok := last[id]; ok {
						t.Fatalf("session %d is there twice", id)
					}
					last[id] = 0
				}
			case 1:
				now += r.Uint64N(400)
				x.Clock(now)
			case 2:
				if x = session.Read(pack.From(written(x))); x == nil {
					t.Fatal("what was written isn't read")
				}
			}
			k := key{1 + r.Uint64N(uint64(len(last))+1), 0}
			k.seq = last[k.id] + r.Uint64N(4) - 1 // below the first one it is the greatest number
			y, fresh := x.Begin(k.id, k.seq)
			if fresh {
				if k.seq != last[k.id]+1 {
					t.Fatalf("%+v is new behind %d", k, last[k.id])
				}
				work++
				done[k]++
				told[k] = api.Reply{Err: api.Errno(work % 53), Num: work, Extra: k.seq}
				if !x.End(k.id, k.seq, told[k]) {
					t.Fatalf("%+v is new, but doesn't end", k)
				}
				last[k.id] = k.seq
			} else if x.End(k.id, k.seq, api.Reply{Num: top}) {
				t.Fatalf("%+v ends, though it isn't new", k)
			}
			if done[k] > 1 {
				t.Fatalf("%+v is new %d times", k, done[k])
			}
			if want, ok := told[k]; ok && !fresh && k.seq == last[k.id] && y != want && y != (api.Reply{Err: api.ErrExpired}) {
				t.Fatalf("%+v is answered %+v, at first %+v", k, y, want)
			}
		}
		if len(done) < 100 {
			t.Fatalf("only %d commands were new", len(done))
		}
	}
}

// P15.2: without End a number stays new; behind it the one ahead is stale, and has no reply any more.
func TestNewTillEnd(t *testing.T) {
	x := session.New()
	x.Register()
	var ahead api.Reply
	for seq := uint64(1); seq < 50; seq++ {
		for range 3 {
			if y, fresh := x.Begin(1, seq); !fresh || y != (api.Reply{}) {
				t.Fatalf("Begin(1, %d) answers %+v, %v without End", seq, y, fresh)
			}
			if y, fresh := x.Begin(1, seq-1); fresh || seq > 1 && y != ahead || seq == 1 && y != (api.Reply{Err: api.ErrStale}) {
				t.Fatalf("Begin(1, %d) answers %+v, %v ahead of End", seq-1, y, fresh)
			}
		}
		y := api.Reply{Num: seq, Extra: 3}
		if !x.End(1, seq, y) || x.End(1, seq, api.Reply{Num: 99}) {
			t.Fatalf("End(1, %d) counts twice, or never", seq)
		}
		for range 3 {
			if got, fresh := x.Begin(1, seq); fresh || got != y {
				t.Fatalf("Begin(1, %d) answers %+v, %v behind End", seq, got, fresh)
			}
			if got, fresh := x.Begin(1, seq-1); fresh || got != (api.Reply{Err: api.ErrStale}) {
				t.Fatalf("Begin(1, %d) answers %+v, %v behind the next one", seq-1, got, fresh)
			}
		}
		ahead = y
	}
}

// front takes the number in front of bytes; false, if none stands there, or one above a limit.
func front(s string, limit uint64) (uint64, string, bool) {
	for n := 1; n <= min(len(s), 9); n++ {
		x := new(big.Int).SetBytes([]byte(s[1:n])).Uint64()
		if numberBytes(x) == s[:n] && x <= limit {
			return x, s[n:], true
		}
	}
	return 0, "", false
}

// frontAll takes a number for each limit.
func frontAll(s string, limits ...uint64) ([]uint64, string, bool) {
	var l []uint64
	for _, limit := range limits {
		x, rest, ok := front(s, limit)
		if !ok {
			return nil, "", false
		}
		l, s = append(l, x), rest
	}
	return l, s, true
}

// meant: what is read from the front of bytes, by the chapter's words, be it a table or not, and what is left; false, if the reader fails.
func meant(s string) (now, next uint64, l []session.Row, rest string, ok bool) {
	head, s, ok := frontAll(s, top, top, most)
	if !ok {
		return 0, 0, nil, "", false
	}
	for range head[2] {
		var f []uint64
		if f, s, ok = frontAll(s, top, top, top, 52, top, top); !ok {
			return 0, 0, nil, "", false
		}
		l = append(l, session.Row{Id: f[0], Used: f[1], Seq: f[2], Reply: api.Reply{Err: api.Errno(f[3]), Num: f[4], Extra: f[5]}})
	}
	return head[0], head[1], l, s, true
}

// isTable: may these be a table, by the chapter's words?
func isTable(now, next uint64, l []session.Row) bool {
	if next == 0 {
		return false
	}
	for i, x := range l {
		ahead := uint64(0)
		if i > 0 {
			ahead = l[i-1].Id
		}
		age := apart(now, x.Used)
		if !isAbove(apart(x.Id, ahead), 0) || !isAbove(apart(next, x.Id), 0) || age.Sign() < 0 || isAbove(age, life) {
			return false
		}
	}
	return true
}

// holdRead holds Read to the words at bytes, and tells whether a table was read.
func holdRead(t *testing.T, s string) bool {
	t.Helper()
	now, next, l, rest, fine := meant(s)
	can := fine && isTable(now, next, l)
	r := pack.From(s)
	x := session.Read(r)
	if x == nil && can || x != nil && !can {
		t.Fatalf("of %s a table is read: %v", brief(s), x != nil)
	}
	if left, good := r.Left(); left != len(rest) || good != fine {
		t.Fatalf("behind %s is left %d, %v, want %d, %v", brief(s), left, good, len(rest), fine)
	}
	if can {
		p := paperOf(now, next, l...)
		holdTable(t, x, p)
		if p.bytes()+rest != s {
			t.Fatalf("%s was read, and is laid as %s", brief(s), brief(p.bytes()))
		}
	}
	return can
}

// samples: tables of no, one, some and 16 sessions.
func samples() []*paper {
	whole := paperOf(1000, 33)
	for id := uint64(2); id <= 32; id += 2 {
		whole.rows[id] = session.Row{Id: id, Used: 31 * id, Seq: 500 * id, Reply: replies()[id%6]}
	}
	return []*paper{
		blank(), paperOf(0, 5), paperOf(top, top), whole,
		paperOf(7, 2, session.Row{Id: 1, Used: 7}),
		paperOf(2000, 9, session.Row{Id: 3, Used: 1000, Seq: 4, Reply: api.Reply{Err: 52, Num: 5, Extra: 6}}, session.Row{Id: 8, Used: 2000, Seq: 1}),
		paperOf(top, top, session.Row{Id: 1, Used: top - 1000, Seq: top, Reply: api.Reply{Num: top, Extra: top}}, session.Row{Id: top - 1, Used: top}),
	}
}

// P15.1: what is written of a table is read as it was, and goes on the same: also the next number, and the time.
func TestThereAndBack(t *testing.T) {
	for _, p := range samples() {
		if !holdRead(t, p.bytes()) {
			t.Fatalf("%s isn't read", brief(p))
		}
		for _, m := range steps() {
			hold(t, tableOf(t, p), copyOf(p), m)
		}
		x, q := tableOf(t, p), copyOf(p)
		for range most + 1 {
			hold(t, x, q, move{kind: 'r'})
		}
	}
}

// P15.1: each bound of a table, just kept and just broken; what has the bounds of numbers is taken from the reader, which goes on.
func TestReadBounds(t *testing.T) {
	one := func(id, used uint64) []session.Row { return []session.Row{{Id: id, Used: used, Seq: 3}} }
	two := func(a, b uint64) []session.Row { return []session.Row{{Id: a, Used: 50}, {Id: b, Used: 50}} }
	for i, c := range []struct {
		now, next uint64
		l         []session.Row
		want      bool
	}{
		{0, 1, nil, true}, {0, 0, nil, false}, {top, top, nil, true}, {top, 0, nil, false}, {5, 0, one(1, 5), false},
		{50, 9, one(0, 50), false}, {50, 9, one(1, 50), true}, {50, 9, one(8, 50), true}, {50, 9, one(9, 50), false}, {50, 9, one(10, 50), false}, {50, 9, one(top, 50), false},
		{50, 1, one(1, 50), false}, {50, 1, one(0, 50), false}, {50, top, one(top-1, 50), true}, {50, top, one(top, 50), false},
		{50, 9, two(3, 4), true}, {50, 9, two(3, 3), false}, {50, 9, two(4, 3), false}, {50, 9, two(0, 3), false}, {50, 9, two(1, 8), true}, {50, 9, two(1, 9), false}, {50, 9, two(9, 8), false}, {50, 9, two(8, 1), false},
		{50, 9, one(3, 51), false}, {50, 9, one(3, 0), true}, {0, 9, one(3, 0), true}, {0, 9, one(3, 1), false}, {0, 9, one(3, top), false}, {top, 9, one(3, top), true},
		{1000, 9, one(3, 0), true}, {1001, 9, one(3, 0), false}, {1001, 9, one(3, 1), true}, {5000, 9, one(3, 4000), true}, {5000, 9, one(3, 3999), false}, {5000, 9, one(3, 5001), false},
		{top, 9, one(3, top-1000), true}, {top, 9, one(3, top-1001), false}, {top, 9, one(3, 0), false}, {999, 9, one(3, top), false}, {1 << 63, 9, one(3, 1<<63-1000), true}, {1 << 63, 9, one(3, 1<<63-1001), false},
		{5000, 9, []session.Row{{Id: 1, Used: 4000}, {Id: 2, Used: 3999}, {Id: 3, Used: 5000}}, false}, {5000, 9, []session.Row{{Id: 1, Used: 4000}, {Id: 2, Used: 5000}, {Id: 3, Used: 5001}}, false},
	} {
		s := strings.Join(laid(c.now, c.next, c.l), "")
		if got := holdRead(t, s); got != c.want {
			t.Errorf("%d: a table is read: %v", i, got)
		}
		r := pack.From(s + "\x01\x05rest5")
		if x := session.Read(r); (x != nil) != c.want || r.Text(5) != "rest5" || !r.Done() {
			t.Errorf("%d: not just the table is taken from the reader", i)
		}
	}
}

// P15.1: up to 16 sessions are read, whoever says that there are more.
func TestReadMost(t *testing.T) {
	var l []session.Row
	for n := uint64(0); n <= 20; n++ {
		s := strings.Join(laid(9, 30, l), "")
		if got := holdRead(t, s); got != (n <= 16) {
			t.Errorf("%d sessions are read: %v", n, got)
		}
		l = append(l, session.Row{Id: n + 1, Used: 9})
	}
	for _, count := range []uint64{17, 255, 256, 1 << 32, 1<<32 + 1, 1 << 63, top} {
		if holdRead(t, "\x00\x01\x01"+numberBytes(count)) || holdRead(t, "\x00\x01\x01"+numberBytes(count)+strings.Repeat("\x00", 400)) {
			t.Errorf("%d sessions are read", count)
		}
	}
}

// P15.1: an error up to 52 is read, though it be none of api's; above it the reader fails.
func TestReadErrors(t *testing.T) {
	for _, e := range append(edges(), 13, 39, 43, 50, 51, 52, 53, 54, 1<<32+52, 1<<63+52) {
		s := "\x00\x01\x02\x01\x01" + "\x01\x01\x00\x01\x01" + numberBytes(e) + "\x00\x00"
		if got := holdRead(t, s); got != (e <= 52) {
			t.Errorf("the error %d is read: %v", e, got)
		}
	}
}

// P15.1: Write lays behind what was laid, and Read takes from where the reader stands, and no more than the table.
func TestBehindOthers(t *testing.T) {
	all := samples()
	w, want := new(pack.Writer).Num(300), "\x02\x01\x2c"
	for _, p := range all {
		tableOf(t, p).Write(w)
		w.Text("ab")
		want += p.bytes() + "\x01\x02ab"
	}
	if w.Bytes() != want {
		t.Fatalf("Write lays %s, want %s", brief(w.Bytes()), brief(want))
	}
	r := pack.From(want)
	if r.Num() != 300 {
		t.Fatal("the number isn't read")
	}
	for _, p := range all {
		x := session.Read(r)
		if x == nil || r.Text(2) != "ab" {
			t.Fatalf("%s isn't read as it was laid", brief(p))
		}
		holdTable(t, x, p)
	}
	if !r.Done() {
		t.Error("not all is read")
	}
}

// P15.1, rule 7: a reader that failed ahead, one at its end, and a nil one give no table; a nil writer takes nothing.
func TestNothingThere(t *testing.T) {
	s := samples()[5].bytes()
	failed := pack.From("\x09" + s)
	failed.Num()
	ended := pack.From(s)
	session.Read(ended)
	for i, r := range []*pack.Reader{failed, ended, nil} {
		for range 2 {
			if x := session.Read(r); x != nil || r.Done() {
				t.Errorf("reader %d gives a table", i)
			}
		}
	}
	for _, p := range samples() {
		var w *pack.Writer
		x := tableOf(t, p)
		x.Write(w)
		if w.Bytes() != "" {
			t.Error("a nil writer has bytes")
		}
		holdTable(t, x, p)
	}
}

// P15.1, rule 7: what a nil table answers.
func TestNilTable(t *testing.T) {
	var x *session.Table
	for range 2 {
		for _, n := range edges() {
			x.Clock(n)
			if x.Now() != 0 || len(x.Rows()) != 0 {
				t.Fatal("a nil table has a time, or sessions")
			}
			if id, e := x.Register(); id != 0 || e != api.ErrFull {
				t.Fatalf("Register answers %d, %d of a nil table", id, int(e))
			}
			if y, fresh := x.Begin(n, n); y != (api.Reply{Err: api.ErrExpired}) || fresh {
				t.Fatalf("Begin answers %+v, %v of a nil table", y, fresh)
			}
			if x.End(n, n, api.Reply{}) || x.End(1, 1, api.Reply{Num: 1}) {
				t.Fatal("End answers true of a nil table")
			}
		}
		w := new(pack.Writer).Num(5)
		x.Write(w)
		x.Write(nil)
		if w.Bytes() != "\x01\x05" {
			t.Fatal("a nil table is laid")
		}
	}
}

// P15.1: in each field of a table any number, in one form or another; each byte changed, gone or doubled.
func TestBytesChanged(t *testing.T) {
	for _, p := range []*paper{blank(), samples()[4], samples()[5], samples()[6]} {
		s, f := p.bytes(), p.fields()
		for i := range f {
			changed := slices.Clone(f)
			for _, n := range append(edges(), 4, 5, 7, 8, 9, 10, 16, 17, 52, 53, 2000, 2001, 3000, 3001) {
				changed[i] = numberBytes(n)
				holdRead(t, strings.Join(changed, ""))
			}
			changed[i] = string([]byte{f[i][0] + 1, 0}) + f[i][1:]
			if holdRead(t, strings.Join(changed, "")) {
				t.Errorf("field %d of %s has a second form", i, brief(p))
			}
		}
		for i := range s {
			if holdRead(t, s[:i]) {
				t.Fatalf("the first %d bytes of %s are read", i, brief(s))
			}
			holdRead(t, s[i:])
			holdRead(t, s[:i]+s[i+1:])
			holdRead(t, s[:i]+s[i:i+1]+s[i:])
			for c := range 256 {
				holdRead(t, s[:i]+string([]byte{byte(c)})+s[i+1:])
			}
		}
		for c := range 256 {
			if !holdRead(t, s+string([]byte{byte(c)})) {
				t.Fatalf("with a byte behind, %s isn't read", brief(s))
			}
		}
	}
}

// P15.1, P0: bytes that look like chance, and tables some of whose numbers do.
func TestChance(t *testing.T) {
	r := draws(4)
	for range 100000 {
		b := make([]byte, r.IntN(30))
		for k := range b {
			b[k] = byte(r.Uint32() >> 24 >> r.IntN(9))
		}
		holdRead(t, string(b))
	}
	read := 0
	for range 20000 {
		now, next := r.Uint64()>>r.IntN(64), r.Uint64()>>r.IntN(64)
		var l []session.Row
		id := uint64(0)
		for range r.IntN(5) {
			id += r.Uint64N(3)
			x := session.Row{Id: id, Used: now - r.Uint64N(1002), Seq: r.Uint64() >> r.IntN(64)}
			if r.IntN(2) == 0 {
				x.Id, x.Used = id+1, now-min(now, r.Uint64N(1001))
			}
			x.Reply = api.Reply{Err: api.Errno(r.IntN(54)), Num: r.Uint64() >> r.IntN(64), Extra: r.Uint64()}
			id = x.Id
			l = append(l, x)
		}
		if holdRead(t, strings.Join(laid(now, next, l), "")) {
			read++
		}
	}
	if read < 4000 || read > 16000 {
		t.Errorf("%d of 20000 were read", read)
	}
}

// Rule 4: Rows answers new memory: nothing that is done to it changes the table or another answer, nor does the table change it.
func TestRowsAreNew(t *testing.T) {
	for _, p := range samples() {
		x := tableOf(t, p)
		a, b := x.Rows(), x.Rows()
		spoiled := a[:cap(a)]
		for i := range spoiled {
			spoiled[i] = session.Row{Id: 99, Used: 98, Seq: 97}
		}
		_ = append(a[:0], session.Row{Id: 96})
		holdTable(t, x, p)
		was := p.list()
		if !slices.Equal(b, was) {
			t.Fatal("two answers share memory")
		}
		for _, row := range was {
			x.Begin(row.Id, row.Seq+1)
			x.End(row.Id, row.Seq+1, api.Reply{Num: 95})
		}
		x.Register()
		x.Clock(x.Now() + 700)
		x.Clock(x.Now() + 700)
		x.Register()
		if !slices.Equal(b, was) {
			t.Fatal("the table changes what it answered")
		}
	}
}

// Rule 8: tables don't hang on each other: side by side, each answers as if it were alone.
func TestSideBySide(t *testing.T) {
	r := draws(5)
	from := paperOf(900, 4, session.Row{Id: 1, Used: 300, Seq: 2, Reply: api.Reply{Num: 6}}, session.Row{Id: 3, Used: 900})
	var all []*session.Table
	var papers []*paper
	for range 4 {
		all, papers = append(all, session.New(), tableOf(t, from)), append(papers, blank(), copyOf(from))
	}
	for range 5000 {
		i := r.IntN(len(all))
		brings(t, all[i], papers[i], anyMove(r, papers[i]))
		k := r.IntN(len(all))
		holdTable(t, all[k], papers[k])
	}
}
