package raft_test

import (
	"math/rand/v2"
	"slices"
	"testing"

	"tontine/api"
	"tontine/quorum"
	"tontine/raft"
	"tontine/rlog"
)

// A memory is what a node gave out: all that lasts of it.
type memory struct {
	hard    api.Hard
	snap    api.Snapshot
	entries []api.Entry
}

// A town is nodes, what lasts of each, and letters under way; it notes what nodes gave out, and holds it to the promises.
type town struct {
	*rand.Rand
	t      *testing.T
	nodes  []*raft.Raft
	kept   []memory
	mail   []api.Letter
	votes  map[[2]uint64]int    // by a node and a term: for whom it voted
	leads  map[uint64]int       // by a term: who leads
	agreed map[uint64]api.Entry // by an index: what is there
	commit []uint64
	change bool // members come and go
	broken int  // how often a node was made anew
}

func settled(t *testing.T, seed uint64, nodes int, members uint64, change bool) *town {
	w := &town{Rand: rand.New(rand.NewPCG(seed, 34)), t: t, votes: map[[2]uint64]int{}, leads: map[uint64]int{}, agreed: map[uint64]api.Entry{}, change: change}
	w.nodes, w.commit = make([]*raft.Raft, nodes), make([]uint64, nodes)
	for i := range nodes {
		w.kept = append(w.kept, memory{hard: api.Hard{Vote: -1}, snap: api.Snapshot{Config: members}})
		w.wake(i)
	}
	return w
}

// wake: a node is made anew of what lasts of it.
func (w *town) wake(i int) {
	w.t.Helper()
	m := w.kept[i]
	g, e := rlog.New(m.snap, m.entries)
	if e != api.OK {
		w.t.Fatalf("node %d gave out what is no log: %s", i, brief(m))
	}
	r, e := raft.New(i, m.hard, g)
	if e != api.OK {
		w.t.Fatalf("node %d gave out what makes no node: %s", i, brief(m))
	}
	w.nodes[i], w.commit[i] = r, m.snap.Index
}

// whole: all of a node lasts, as it is.
func (w *town) whole(i int) {
	g := w.nodes[i].Log()
	w.kept[i].snap, w.kept[i].entries = g.First(), entriesOf(g)
}

// take: what a node gathered lasts, then its letters go out.
func (w *town) take(i int) {
	w.t.Helper()
	y := w.nodes[i].Take()
	m := &w.kept[i]
	if y.Hard.Term < m.hard.Term || y.Commit < w.commit[i] {
		w.t.Fatalf("node %d: term %d, commit %d; they were %d, %d", i, y.Hard.Term, y.Commit, m.hard.Term, w.commit[i])
	}
	m.hard, w.commit[i] = y.Hard, y.Commit
	if y.Install {
		w.whole(i)
	} else if len(y.Entries) > 0 {
		at := int(y.Entries[0].Index - m.snap.Index - 1)
		m.entries = append(slices.Clone(m.entries[:at]), y.Entries...)
	}
	if g := w.nodes[i].Log(); g.First() != m.snap || !slices.Equal(entriesOf(g), m.entries) {
		w.t.Fatalf("node %d has more than it gave out", i)
	}
	w.note(i, y)
	w.mail = append(w.mail, y.Letters...)
}

// voted: a node voted for one in a term.
func (w *town) voted(i int, term uint64, who int) {
	w.t.Helper()
	key := [2]uint64{uint64(i), term}
	if before, ok := w.votes[key]; ok && before != who {
		w.t.Fatalf("node %d votes for %d and %d in term %d", i, before, who, term)
	}
	w.votes[key] = who
}

// note: what a node gave out is held against what all gave out before.
func (w *town) note(i int, y raft.Ready) {
	w.t.Helper()
	if y.Hard.Vote >= 0 {
		w.voted(i, y.Hard.Term, y.Hard.Vote)
	}
	for _, x := range y.Letters {
		switch {
		case x.From != i || x.To == i:
			w.t.Fatalf("node %d sends %s", i, brief(x))
		case x.Kind == api.LetterAsk:
			w.voted(i, x.Term, i)
		case x.Kind == api.LetterVote && x.Ok:
			w.voted(i, x.Term, x.To)
		case x.Kind == api.LetterAppend || x.Kind == api.LetterInstall:
			w.led(i, x.Term)
		}
	}
	if role, _, h, _ := w.nodes[i].Status(); role == raft.Leader {
		w.led(i, h.Term)
	}
	for index := w.kept[i].snap.Index + 1; index <= y.Commit; index++ {
		x := w.nodes[i].Log().Get(index, 1)
		if len(x) == 0 {
			w.t.Fatalf("node %d: commit %d, but nothing at %d", i, y.Commit, index)
		}
		if before, ok := w.agreed[index]; ok && before != x[0] {
			w.t.Fatalf("node %d: at %d %s, but %s was agreed upon", i, index, brief(x[0]), brief(before))
		}
		w.agreed[index] = x[0]
	}
}

// led: a node led in a term.
func (w *town) led(i int, term uint64) {
	w.t.Helper()
	if before, ok := w.leads[term]; ok && before != i {
		w.t.Fatalf("nodes %d and %d lead in term %d", before, i, term)
	}
	w.leads[term] = i
}

// deliver: a letter under way arrives, early or late; it may be there once more.
func (w *town) deliver() {
	w.t.Helper()
	if len(w.mail) == 0 {
		return
	}
	k := w.IntN(len(w.mail))
	if w.IntN(3) > 0 {
		k = min(k, 2)
	}
	x := w.mail[k]
	if w.IntN(8) > 0 {
		w.mail = slices.Delete(w.mail, k, k+1)
	}
	i := x.To
	_, _, before, c := w.nodes[i].Status()
	w.nodes[i].Receive(x)
	if _, _, h, d := w.nodes[i].Status(); h.Term < before.Term || d < c {
		w.t.Fatalf("node %d: term %d, commit %d; they were %d, %d", i, h.Term, d, before.Term, c)
	}
	w.mayTake(i)
}

// mayTake: mostly a node's things are taken at once; else more may come up, or all be lost.
func (w *town) mayTake(i int) {
	w.t.Helper()
	if w.IntN(6) > 0 {
		w.take(i)
	}
}

// compact: a snapshot stands for some of what is agreed upon.
func (w *town) compact(i int) {
	w.t.Helper()
	w.take(i)
	if first := w.kept[i].snap.Index; w.commit[i] > first {
		w.nodes[i].Compact(first+1+w.Uint64N(w.commit[i]-first), "state")
		w.whole(i)
	}
}

// move: something befalls the town.
func (w *town) move() {
	w.t.Helper()
	i := w.IntN(len(w.nodes))
	r := w.nodes[i]
	switch k := w.IntN(100); {
	case k < 70:
		w.deliver()
		return
	case k < 74:
		r.Timeout()
	case k < 82:
		r.Beat()
	case k < 88:
		r.Propose(string(rune('a' + w.IntN(26))))
	case k < 94:
		if w.change {
			r.Change(w.IntN(2) == 0, w.IntN(len(w.nodes)))
		}
	case k < 96:
		w.compact(i)
	case k < 98:
		w.broken++
		w.wake(i)
	default:
		if n := len(w.mail); n > 0 {
			w.mail = slices.Delete(w.mail, 0, w.IntN(n+1))
		}
	}
	w.mayTake(i)
}

// quiet: nothing befalls the town, and all letters arrive, till none is under way (or too many were).
func (w *town) quiet() {
	w.t.Helper()
	for i := range w.nodes {
		w.take(i)
	}
	for range 2000 {
		if len(w.mail) == 0 {
			return
		}
		x := w.mail[0]
		w.mail = w.mail[1:]
		w.nodes[x.To].Receive(x)
		w.take(x.To)
	}
	w.t.Fatal("letters without end")
}

// ends: when nothing befalls the town any more, all members agree with the one that leads; false, if nobody comes to lead.
func (w *town) ends() bool {
	w.t.Helper()
	w.quiet()
	for range 200 {
		i := w.IntN(len(w.nodes))
		r := w.nodes[i]
		r.Timeout()
		w.quiet()
		r.Beat() // one that leads in an elder term hears so
		w.quiet()
		if role, _, _, _ := r.Status(); role != raft.Leader {
			continue
		}
		r.Propose("end")
		w.quiet()
		r.Beat()
		w.quiet()
		w.agree(i)
		return true
	}
	return false
}

// agree: all members have all of the leader's entries, and know it.
func (w *town) agree(i int) {
	w.t.Helper()
	_, _, h, c := w.nodes[i].Status()
	last, _ := w.nodes[i].Log().Last()
	members, _ := w.nodes[i].Log().Members()
	for _, id := range quorum.Members(members) {
		_, leader, g, d := w.nodes[id].Status()
		at, _ := w.nodes[id].Log().Last()
		if leader != i || g.Term != h.Term || d != c || at != last || c != last {
			w.t.Fatalf("leader %d: term %d, commit %d of %d; node %d: leader %d, term %d, commit %d of %d", i, h.Term, c, last, id, leader, g.Term, d, at)
		}
	}
}

// seen: what befell all towns.
type seen struct{ agreed, broken, terms, ended int }

// live: a town's life, to its end.
func (s *seen) live(w *town) {
	w.t.Helper()
	for range 1500 {
		w.move()
	}
	if w.ends() {
		s.ended++
	}
	s.agreed, s.broken, s.terms = s.agreed+len(w.agreed), s.broken+w.broken, s.terms+len(w.leads)
}

func TestElections(t *testing.T) {
	var s seen
	const towns = 210
	for seed := range uint64(towns) {
		nodes := int(seed%7) + 1
		s.live(settled(t, seed, nodes, 1<<nodes-1, false))
	}
	if s.ended < towns || s.agreed < 5000 || s.broken < 1000 || s.terms < 1000 {
		t.Fatalf("%+v", s)
	}
}

// Where members come and go, the words leave some towns without one that may lead: a node that is made anew knows less of what was agreed upon, so it may not stand, and nobody else's log is as new as its own.
func TestElectionsOfChangingMembers(t *testing.T) {
	var s seen
	const towns = 210
	for seed := range uint64(towns) {
		nodes := int(seed%6) + 2
		members := uint64(1)<<nodes - 1
		if seed%4 == 0 { // some aren't members yet
			members = members/2 + 1
		}
		s.live(settled(t, seed, nodes, members, true))
	}
	if s.ended < towns-10 || s.agreed < 5000 || s.broken < 1000 || s.terms < 1000 {
		t.Fatalf("%+v", s)
	}
}
