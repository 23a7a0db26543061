package machine_test

import (
	"slices"
	"testing"

	"tontine/api"
	"tontine/machine"
	"tontine/session"
)

// timeless: the bytes of a machine without its time and its sessions' times, by the paper that says the same as it.
func timeless(t *testing.T, m *machine.Machine) string {
	t.Helper()
	p, ok := meant(m.Save())
	if !ok {
		t.Fatalf("Save answers %s, which is no machine", brief(m.Save()))
	}
	p.now = 0
	for i := range p.rows {
		p.rows[i].Used = 0
	}
	return p.bytes()
}

// comesAgain holds a command that comes again to P17.3: it is answered as at first, and changes nothing but the time.
func comesAgain(t *testing.T, m *machine.Machine, c api.Command, y api.Reply) {
	t.Helper()
	was := timeless(t, m)
	if got := m.Apply(bytesOf(t, c)); got != y {
		t.Fatalf("%s again answers %+v, and at first %+v", brief(c), got, y)
	}
	if timeless(t, m) != was {
		t.Fatalf("%s again changes the machine", brief(c))
	}
}

// P17.3: each kind of reply comes again as it was, though what it tells of went on, or is there by now.
func TestOnceByHand(t *testing.T) {
	for i, c := range []struct {
		c       api.Command
		y       api.Reply
		between []api.Command
	}{
		{submits(1, 1, 7, steps(2, 2)), api.Reply{Num: 1}, []api.Command{did(7, 0, true), did(7, 1, true)}},
		{submits(1, 1, 7, steps(2, 2)), api.Reply{Num: 1}, []api.Command{aborts(2, 1, 7), took(7, 0, 0, true)}},
		{submits(1, 1, 3, steps(2, 2)), fault(errTwice), []api.Command{did(3, 0, false), aborts(2, 1, 3)}},
		{aborts(1, 1, 3), api.Reply{Num: 2}, []api.Command{took(3, 0, 0, true), asks(2, 1, 3)}},
		{aborts(1, 1, 7), fault(errSaga), []api.Command{submits(2, 1, 7, steps(1, 1))}},
		{asks(1, 1, 7), fault(errSaga), []api.Command{submits(2, 1, 7, steps(1, 1)), did(7, 0, true)}},
		{asks(1, 1, 3), api.Reply{Num: 1}, []api.Command{did(3, 0, true), enters(0), aborts(2, 1, 3)}},
		{asks(1, 2, 3), fault(errStale), []api.Command{did(3, 0, true), asks(2, 1, 3)}},
		{asks(1, 0, 3), fault(errStale), []api.Command{did(3, 0, true), asks(2, 1, 3)}},
		{aborts(9, 1, 3), fault(errExpired), []api.Command{did(3, 0, true), asks(2, 1, 3)}},
	} {
		m := machine.New()
		for _, x := range []api.Command{enters(0), enters(0), enters(0), submits(3, 1, 3, steps(2, 2))} {
			m.Apply(bytesOf(t, x))
		}
		if y := m.Apply(bytesOf(t, c.c)); y != c.y {
			t.Fatalf("%d: %s answers %+v, want %+v", i, brief(c.c), y, c.y)
		}
		comesAgain(t, m, c.c, c.y)
		for k, x := range c.between {
			was := timeless(t, m)
			m.Apply(bytesOf(t, x))
			if timeless(t, m) == was {
				t.Fatalf("%d: command %d between changes nothing", i, k)
			}
			comesAgain(t, m, c.c, c.y)
			comesAgain(t, m, at(700, c.c), c.y)
		}
	}
}

// P17.3: where 16 sagas are there, ErrFull comes again as well; a session's number counts, whatever else the command says.
func TestOnceFull(t *testing.T) {
	m := loaded(t, &paper{next: 4, rows: []session.Row{{Id: 1, Seq: 8}, {Id: 2, Seq: 3}}, sagas: samples()[2].sagas})
	comesAgain(t, m, submits(2, 3, 500, steps(1, 1)), api.Reply{})
	if y := m.Apply(bytesOf(t, submits(1, 9, 500, steps(1, 1)))); y != fault(errFull) {
		t.Fatalf("Submit answers %+v", y)
	}
	for _, c := range []api.Command{submits(1, 9, 500, steps(1, 1)), submits(1, 9, 10, steps(1, 1)), asks(1, 9, 10), aborts(1, 9, 10), aborts(1, 9, 500)} {
		comesAgain(t, m, c, fault(errFull))
	}
	for _, seq := range []uint64{0, 8, 11, top} {
		comesAgain(t, m, aborts(1, seq, 10), fault(errStale))
	}
}

// P17.3, P4: the numbers' end: behind 2^64 - 1 nothing is new, and it is answered for good.
func TestOnceLast(t *testing.T) {
	m := loaded(t, &paper{next: 3, rows: []session.Row{{Id: 2, Seq: top - 1, Reply: api.Reply{Num: 3}}}, sagas: []held{{7, api.Saga{Steps: steps(2, 1), State: runs}}}})
	comesAgain(t, m, aborts(2, top-1, 7), api.Reply{Num: 3})
	comesAgain(t, m, aborts(2, 0, 7), fault(errStale))
	if y := m.Apply(bytesOf(t, aborts(2, top, 7))); y != (api.Reply{Num: back}) {
		t.Fatalf("Abort answers %+v", y)
	}
	for _, seq := range []uint64{0, 1, 2, top - 1} {
		comesAgain(t, m, aborts(2, seq, 7), fault(errStale))
	}
	comesAgain(t, m, asks(2, top, 9), api.Reply{Num: back})
}

// P17.3: in long runs, whatever came between in other sessions, of each session that lives the last command is answered as at first, and changes nothing but the time.
func TestOnce(t *testing.T) {
	again := 0
	for seed := range 40 {
		r := draws(6000 + seed)
		m, p := machine.New(), blank()
		last := map[uint64]api.Command{}
		first := map[uint64]api.Reply{}
		for range 400 {
			c := anyCommand(r, p)
			x := p.row(c.Session)
			fresh := c.Kind != register && c.Kind != outcome && x != nil && c.Seq == x.Seq+1
			y := answers(t, m, p, c)
			if now := p.row(c.Session); fresh && now != nil && now.Seq == c.Seq {
				last[c.Session], first[c.Session] = c, y
			}
			for _, x := range slices.Clone(p.rows) {
				if d, ok := last[x.Id]; ok && r.IntN(4) == 0 {
					comesAgain(t, m, d, first[x.Id])
					p.apply(d)
					again++
				}
			}
		}
		holdMachine(t, m, p)
	}
	if again < 1000 {
		t.Errorf("only %d commands came again", again)
	}
}

// P4: a run in which each command comes up to three times, each time from elsewhere, ends as the one in which it comes once.
func TestDoubled(t *testing.T) {
	for seed := range 40 {
		r := draws(7000 + seed)
		once, more, p := machine.New(), machine.New(), blank()
		for range 300 {
			c := anyCommand(r, p)
			c.Now = 0
			if c.Kind == register || c.Kind == outcome {
				p.apply(c)
				once.Apply(bytesOf(t, c))
				more.Apply(bytesOf(t, c))
				continue
			}
			y := p.apply(c)
			s := bytesOf(t, c)
			if got := once.Apply(s); got != y {
				t.Fatalf("%s answers %+v, want %+v", brief(c), got, y)
			}
			for range 1 + r.IntN(3) {
				if got := more.Apply(s); got != y {
					t.Fatalf("%s sent again answers %+v, want %+v", brief(c), got, y)
				}
			}
		}
		if once.Save() != more.Save() {
			t.Fatalf("sent once: %s; sent again: %s", brief(once.Save()), brief(more.Save()))
		}
	}
}
