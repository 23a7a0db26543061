package machine_test

import (
	"slices"
	"strings"
	"testing"

	"tontine/api"
	"tontine/machine"
	"tontine/pack"
	"tontine/plan"
	"tontine/session"
)

// canBe: can a saga be, by layer 14's words?
func canBe(s api.Saga) bool {
	n := len(s.Steps)
	if plan.Check(s.Steps) != api.OK {
		return false
	}
	if s.State == done {
		return s.Cursor == n && s.Failed == 0
	}
	if s.State == undone {
		return s.Cursor == 0 && s.Failed == 0
	}
	if s.Cursor < 0 || s.Cursor >= n {
		return false
	}
	budget := s.Steps[s.Cursor].Budget
	return s.State == runs && s.Failed == 0 || s.State == back && s.Failed >= 0 && s.Failed < budget || s.State == stuck && s.Failed == budget
}

// isMachine: is that one, by the words of chapters 14, 15 and 17? Its sagas are in the order in which they are handed in.
func isMachine(p *paper) bool {
	if p.next == 0 || len(p.rows) > mostSessions || len(p.sagas) > mostSagas {
		return false
	}
	for i, x := range p.rows {
		if x.Id == 0 || i > 0 && x.Id <= p.rows[i-1].Id || x.Id >= p.next || x.Used > p.now || p.now-x.Used > life || x.Reply.Err > 52 || x.Reply.Err < 0 {
			return false
		}
	}
	for i, x := range p.sagas {
		if i > 0 && x.id <= p.sagas[i-1].id || !canBe(x.saga) {
			return false
		}
	}
	return true
}

// meant: the machine that is saved as s, by the words; false, if there is none. It reads what numbers and texts may stand there, and holds them to the words behind that.
func meant(s string) (*paper, bool) {
	if s == "" {
		return blank(), true
	}
	r := pack.From(s)
	p := &paper{now: r.Num(), next: r.Num()}
	for range r.Up(1000) {
		x := session.Row{Id: r.Num(), Used: r.Num(), Seq: r.Num()}
		x.Reply = api.Reply{Err: api.Errno(r.Num()), Num: r.Num(), Extra: r.Num()}
		p.rows = append(p.rows, x)
	}
	for range r.Up(1000) {
		x := held{id: r.Num()}
		for range r.Up(1000) {
			x.saga.Steps = append(x.saga.Steps, api.Step{Part: int(r.Num()), Name: r.Text(1000), Budget: int(r.Num())})
		}
		x.saga.State, x.saga.Cursor, x.saga.Failed = int(r.Num()), int(r.Num()), int(r.Num())
		p.sagas = append(p.sagas, x)
	}
	return p, r.Done() && isMachine(p) && laid(p.now, p.next, p.rows, p.sagas) == s
}

// holdLoad holds Load to the words at bytes, and tells whether they are a machine's.
func holdLoad(t *testing.T, s string) bool {
	t.Helper()
	p, ok := meant(s)
	m, e := machine.Load(s)
	if !ok {
		if e != api.ErrForm || m != nil {
			t.Fatalf("Load answers %d of %s, want ErrForm", int(e), brief(s))
		}
		return false
	}
	if e != api.OK || m == nil {
		t.Fatalf("Load answers %d of %s", int(e), brief(s))
	}
	if got := m.Save(); got != s && s != "" {
		t.Fatalf("%s was loaded, and is saved as %s", brief(s), brief(got))
	}
	holdMachine(t, m, p)
	return true
}

// P17.2: what is saved is loaded as the same machine, which goes on the same.
func TestThereAndBack(t *testing.T) {
	for _, p := range samples() {
		if !holdLoad(t, p.bytes()) {
			t.Fatalf("%s isn't loaded", brief(p))
		}
		for _, c := range commands() {
			a, b := loaded(t, p), copyOf(p)
			hold(t, a, b, c)
			again, e := machine.Load(a.Save())
			if e != api.OK {
				t.Fatalf("Load answers %d of what was saved", int(e))
			}
			holdMachine(t, again, b)
		}
	}
}

// P17.2: a machine that is saved and loaded now and then goes on as one that isn't; what it was saved from isn't touched by it.
func TestGoesOn(t *testing.T) {
	for seed := range 40 {
		r := draws(3000 + seed)
		m, p := machine.New(), blank()
		other := m
		for range 500 {
			c := anyCommand(r, p)
			s := bytesOf(t, c)
			if r.IntN(5) == 0 {
				saved := m.Save()
				branch, e := machine.Load(saved)
				if e != api.OK || branch.Save() != saved {
					t.Fatalf("Load answers %d of what was saved", int(e))
				}
				other = branch
				branch.Apply(bytesOf(t, anyCommand(r, p)))
				if m.Save() != saved {
					t.Fatal("a loaded machine changes the one that was saved")
				}
				if other, e = machine.Load(saved); e != api.OK {
					t.Fatalf("Load answers %d the second time", int(e))
				}
			}
			y := answers(t, m, p, c)
			if other != m {
				if got := other.Apply(s); got != y || other.Save() != m.Save() {
					t.Fatalf("behind Load Apply(%s) answers %+v, want %+v", brief(c), got, y)
				}
			}
		}
		holdMachine(t, m, p)
		holdMachine(t, other, p)
	}
}

// P17.1: no bytes are a new machine, another one each time; a new one's own bytes are it too.
func TestLoadNothing(t *testing.T) {
	if !holdLoad(t, "") || !holdLoad(t, "\x00\x01\x01\x00\x00") {
		t.Fatal("a new machine isn't loaded")
	}
	a, _ := machine.Load("")
	b, _ := machine.Load("")
	p := blank()
	hold(t, a, p, enters(4))
	hold(t, a, p, submits(1, 1, 7, steps(2, 1)))
	holdMachine(t, b, blank())
	for _, s := range []string{"\x00", "\x00\x01", "\x00\x01\x01", "\x00\x01\x01\x00", "\x00\x00\x00\x00", "\x00\x01\x01\x00\x00\x00", "\x01\x00\x01\x01\x00\x00", "bytes", "\x09"} {
		if holdLoad(t, s) {
			t.Errorf("%q is loaded", s)
		}
	}
}

// P17.1: up to 16 sagas are loaded, and up to 16 sessions, whoever says that there are more.
func TestLoadMost(t *testing.T) {
	var sagas []held
	var rows []session.Row
	for n := range 20 {
		if got := holdLoad(t, laid(9, 30, nil, sagas)); got != (n <= 16) {
			t.Errorf("%d sagas are loaded: %v", n, got)
		}
		if got := holdLoad(t, laid(9, 30, rows, nil)); got != (n <= 16) {
			t.Errorf("%d sessions are loaded: %v", n, got)
		}
		sagas = append(sagas, held{uint64(n), api.Saga{Steps: steps(1, 1), State: runs}})
		rows = append(rows, session.Row{Id: uint64(n) + 1, Used: 9})
	}
	for _, count := range []uint64{17, 255, 256, 1 << 32, 1<<32 + 1, 1 << 63, top} {
		s := new(pack.Writer).Num(9).Num(30).Num(0).Num(count).Bytes()
		for _, x := range []string{s, s + strings.Repeat("\x00", 400), s + strings.TrimPrefix(laid(9, 30, nil, sagas[:1]), "\x01\x09\x01\x1e\x00\x01\x01")} {
			if holdLoad(t, x) {
				t.Errorf("%d sagas are loaded", count)
			}
		}
	}
}

// P17.1: sagas stand in the order of their numbers, each once.
func TestLoadOrder(t *testing.T) {
	for i, c := range []struct {
		ids  []uint64
		want bool
	}{
		{[]uint64{0}, true}, {[]uint64{top}, true}, {[]uint64{0, 1}, true}, {[]uint64{0, top}, true}, {[]uint64{0, 0}, false}, {[]uint64{1, 1}, false}, {[]uint64{1, 0}, false},
		{[]uint64{top, top}, false}, {[]uint64{top, 0}, false}, {[]uint64{top, 1}, false}, {[]uint64{1, 2, 3}, true}, {[]uint64{1, 3, 2}, false}, {[]uint64{2, 1, 3}, false}, {[]uint64{1, 3, 3}, false},
		{[]uint64{5, 7, 6}, false}, {[]uint64{255, 256, 1 << 63}, true}, {[]uint64{256, 255}, false}, {[]uint64{0, 5, 0}, false}, {[]uint64{1 << 63, 1}, false},
	} {
		var l []held
		for k, id := range c.ids {
			l = append(l, held{id, api.Saga{Steps: steps(2, 2), State: runs, Cursor: k % 2}})
		}
		if got := holdLoad(t, laid(4, 5, nil, l)); got != c.want {
			t.Errorf("%d: sagas %v are loaded: %v", i, c.ids, got)
		}
	}
}

// P17.1: only sagas that can be are loaded, at whatever place they stand; and only sessions.
func TestLoadSound(t *testing.T) {
	good := api.Saga{Steps: steps(2, 2), State: runs}
	can := 0
	for state := range 7 {
		for cursor := range 4 {
			for failed := range 4 {
				x := api.Saga{Steps: steps(2, 2), State: state, Cursor: cursor, Failed: failed}
				for _, l := range [][]held{{{3, x}}, {{1, good}, {3, x}}, {{3, x}, {4, good}}} {
					if got := holdLoad(t, laid(4, 5, nil, l)); got != canBe(x) {
						t.Fatalf("%+v is loaded: %v", x, got)
					}
				}
				if canBe(x) {
					can++
				}
			}
		}
	}
	if can != 10 { // 2 that run, 2 times 2 that are taken back, one done, one undone, 2 stuck
		t.Errorf("%d sagas can be", can)
	}
	for i, x := range []api.Step{{Part: 4, Name: "a", Budget: 1}, {Part: -1, Name: "a", Budget: 1}, {Part: 0, Name: "", Budget: 1}, {Part: 0, Name: "of seventeen bytes", Budget: 1}, {Part: 0, Name: "a"}, {Part: 0, Name: "a", Budget: 10}} {
		if holdLoad(t, laid(4, 5, nil, []held{{3, api.Saga{Steps: []api.Step{x}, State: runs}}})) {
			t.Errorf("step %d is loaded", i)
		}
	}
	for _, n := range []int{0, 65} {
		if holdLoad(t, laid(4, 5, nil, []held{{3, api.Saga{Steps: steps(n, 1), State: runs}}})) {
			t.Errorf("a saga of %d steps is loaded", n)
		}
	}
	for i, x := range []session.Row{{Id: 0, Used: 4}, {Id: 5, Used: 4}, {Id: 1, Used: 5}, {Id: 1, Used: 4, Reply: fault(53)}, {Id: 1, Used: 4, Reply: fault(-1)}} {
		if holdLoad(t, laid(4, 5, []session.Row{x}, []held{{3, good}})) {
			t.Errorf("session %d is loaded", i)
		}
	}
	if holdLoad(t, laid(4, 0, nil, []held{{3, good}})) || holdLoad(t, laid(2000, 5, []session.Row{{Id: 1, Used: 999}}, nil)) {
		t.Error("what is no table is loaded")
	}
}

// P17.1: each byte changed, gone or doubled; bytes behind, and too few.
func TestBytesChanged(t *testing.T) {
	small := &paper{now: 2000, next: 4, rows: []session.Row{{Id: 2, Used: 1000, Seq: 1, Reply: fault(errTwice)}}}
	small.sagas = []held{{3, api.Saga{Steps: steps(2, 2), State: back, Cursor: 1, Failed: 1}}, {300, api.Saga{Steps: steps(1, 1), State: done, Cursor: 1}}}
	for _, p := range []*paper{blank(), small, samples()[3]} {
		s := p.bytes()
		for i := range s {
			if holdLoad(t, s[:i]) != (i == 0) {
				t.Fatalf("the first %d bytes of %s are loaded", i, brief(s))
			}
			holdLoad(t, s[i:])
			holdLoad(t, s[:i]+s[i+1:])
			holdLoad(t, s[:i]+s[i:i+1]+s[i:])
			holdLoad(t, s[:i]+"\x00"+s[i:])
			for c := range 256 {
				holdLoad(t, s[:i]+string([]byte{byte(c)})+s[i+1:])
			}
		}
		for c := range 256 {
			if holdLoad(t, s+string([]byte{byte(c)})) {
				t.Fatalf("with a byte behind, %s is loaded", brief(s))
			}
		}
		if holdLoad(t, s+s) {
			t.Errorf("%s twice is loaded", brief(s))
		}
	}
}

// P17.1, P0: all short bytes, alone and behind a table.
func TestShortBytes(t *testing.T) {
	letters := []string{"\x00", "\x01", "\x02", "\x05", "\x08", "\xff"}
	var all func(s string, left int)
	all = func(s string, left int) {
		holdLoad(t, s)
		holdLoad(t, "\x00\x01\x01\x00"+s)
		if left > 0 {
			for _, c := range letters {
				all(s+c, left-1)
			}
		}
	}
	all("", 6)
	r := draws(4000)
	for range 100000 {
		b := make([]byte, r.IntN(40))
		for k := range b {
			b[k] = byte(r.Uint32() >> 24 >> r.IntN(9))
		}
		holdLoad(t, string(b))
		holdLoad(t, "\x00\x01\x01\x00"+string(b))
	}
}

// P17.2: whatever order sagas came in, the same ones are saved as the same bytes.
func TestOneForm(t *testing.T) {
	r := draws(5000)
	ids := []uint64{0, 1, 2, 9, 10, 100, 255, 256, 300, 1 << 16, 1 << 32, 1 << 63, top - 1, top}
	want := ""
	for range 200 {
		m, p := machine.New(), blank()
		answers(t, m, p, enters(0))
		l := slices.Clone(ids)
		r.Shuffle(len(l), func(i, k int) { l[i], l[k] = l[k], l[i] })
		for i, id := range l {
			answers(t, m, p, submits(1, uint64(i+1), id, steps(1+int(id%5), 2)))
		}
		if got := m.Save(); want == "" {
			want = got
		} else if got != want {
			t.Fatalf("Save answers %s, want %s", brief(got), brief(want))
		}
		if !slices.Equal(m.Sagas(), ids) {
			t.Fatalf("Sagas answers %v", m.Sagas())
		}
	}
}
