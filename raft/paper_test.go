package raft_test

import (
	"fmt"
	"math"
	"math/rand/v2"
	"reflect"
	"slices"
	"strings"
	"testing"

	"tontine/api"
	"tontine/quorum"
	"tontine/raft"
	"tontine/rlog"
)

// A paper is a node by the chapter's words, sentence by sentence, with maps where those speak of nodes.
type paper struct {
	id, role, leader int
	hard             api.Hard
	log              *rlog.Log
	commit           uint64
	votes            map[int]bool
	next, match      map[int]uint64
	up               raft.Ready // what was gathered
}

func paperOf(id int, h api.Hard, g *rlog.Log) *paper {
	return &paper{id: id, hard: h, log: g, leader: -1, commit: g.First().Index}
}

func (p *paper) last() uint64 {
	i, _ := p.log.Last()
	return i
}

func (p *paper) members() uint64 {
	c, _ := p.log.Members()
	return c
}

func (p *paper) send(x api.Letter) {
	x.From = p.id
	x.Term = p.hard.Term
	p.up.Letters = append(p.up.Letters, x)
}

func (p *paper) keep(l []api.Entry) {
	var out []api.Entry
	for _, x := range p.up.Entries {
		if len(l) == 0 || x.Index < l[0].Index {
			out = append(out, x)
		}
	}
	p.up.Entries = append(out, l...)
}

func (p *paper) followTerm(term uint64) {
	p.role = 0
	if term > p.hard.Term {
		p.hard = api.Hard{Term: term, Vote: -1}
		p.leader = -1
	}
}

func (p *paper) toLead() {
	var set uint64
	for id := range p.votes {
		set += 1 << id
	}
	if p.role != 1 || !quorum.Majority(p.members(), set) {
		return
	}
	p.role = 2
	p.leader = p.id
	p.next, p.match = map[int]uint64{}, map[int]uint64{}
	for id := range 7 {
		p.next[id] = p.last() + 1
	}
	p.addEntry(0, "")
}

func (p *paper) addEntry(kind int, data string) (uint64, api.Errno) {
	x, e := p.log.Add(p.hard.Term, kind, data)
	if e != api.OK {
		return 0, e
	}
	p.keep([]api.Entry{x})
	p.match[p.id] = x.Index
	p.Beat()
	p.advance()
	return x.Index, api.OK
}

func (p *paper) advance() {
	members, since := p.log.Members()
	var at []uint64
	for id := range 7 {
		at = append(at, p.match[id])
	}
	n := quorum.Reached(members, at)
	if t, e := p.log.Term(n); e != api.OK || t != p.hard.Term {
		return
	}
	if n <= p.commit {
		return
	}
	p.commit = n
	if since > n {
		return
	}
	if quorum.Has(members, p.id) {
		return
	}
	p.Beat()
	p.role = 0
	p.leader = -1
}

func (p *paper) writeTo(id int) {
	s := p.log.First()
	if p.next[id] <= s.Index {
		p.send(api.Letter{Kind: 5, To: id, Index: s.Index, Prev: s.Term, Commit: s.Config, Data: s.Data})
		return
	}
	x := api.Letter{Kind: 3, To: id, Index: p.next[id] - 1, Commit: p.commit}
	x.Prev, _ = p.log.Term(x.Index)
	x.Entries = p.log.Get(p.next[id], 8)
	p.send(x)
}

func (p *paper) Take() raft.Ready {
	y := p.up
	y.Hard = p.hard
	y.Commit = p.commit
	p.up = raft.Ready{}
	return y
}

func (p *paper) Timeout() {
	then, _ := p.log.MembersAt(p.commit)
	if p.role == 2 || p.hard.Term == math.MaxUint64 {
		return
	}
	if !quorum.Has(p.members(), p.id) && !quorum.Has(then, p.id) {
		return
	}
	p.role = 1
	p.leader = -1
	p.hard.Term++
	p.hard.Vote = p.id
	p.votes = map[int]bool{p.id: true}
	p.up.Reset = true
	for _, id := range quorum.Members(p.members()) {
		if id != p.id {
			i, t := p.log.Last()
			p.send(api.Letter{Kind: 1, To: id, Index: i, Prev: t})
		}
	}
	p.toLead()
}

func (p *paper) Beat() {
	if p.role != 2 {
		return
	}
	for _, id := range quorum.Members(p.members()) {
		if id != p.id {
			p.writeTo(id)
		}
	}
}

func (p *paper) Propose(data string) (uint64, api.Errno) {
	if p.role != 2 {
		return 0, api.ErrLeader
	}
	return p.addEntry(1, data)
}

func (p *paper) Change(add bool, id int) (uint64, api.Errno) {
	if p.role != 2 {
		return 0, api.ErrLeader
	}
	members, since := p.log.Members()
	if since > p.commit {
		return 0, api.ErrBusy
	}
	if t, e := p.log.Term(p.commit); e != api.OK || t != p.hard.Term {
		return 0, api.ErrBusy
	}
	c, e := quorum.Change(members, add, id)
	if e != api.OK {
		return 0, e
	}
	if add {
		p.next[id] = p.last() + 1
		p.match[id] = 0
	}
	return p.addEntry(2, rlog.Config(c))
}

func (p *paper) Compact(i uint64, data string) api.Errno {
	if i > p.commit {
		return api.ErrArg
	}
	return p.log.Compact(i, data)
}

func (p *paper) Status() (int, int, api.Hard, uint64) { return p.role, p.leader, p.hard, p.commit }

func (p *paper) Receive(x api.Letter) {
	if !slices.Contains([]int{1, 2, 3, 4, 5}, x.Kind) || x.To != p.id || x.Index > 1<<62 {
		return
	}
	if x.From == p.id || !slices.Contains([]int{0, 1, 2, 3, 4, 5, 6}, x.From) {
		return
	}
	if x.Term > p.hard.Term {
		p.followTerm(x.Term)
	}
	switch x.Kind {
	case 1:
		p.hearAsk(x)
	case 2:
		if p.role == 1 && x.Term == p.hard.Term && x.Ok {
			p.votes[x.From] = true
			p.toLead()
		}
	case 3, 5:
		p.hearLeader(x)
	case 4:
		if p.role == 2 && x.Term == p.hard.Term {
			p.hearAppended(x)
		}
	}
}

func (p *paper) hearAsk(x api.Letter) {
	i, t := p.log.Last()
	granted := x.Term == p.hard.Term && p.role == 0
	granted = granted && (p.hard.Vote == -1 || p.hard.Vote == x.From)
	granted = granted && (x.Prev > t || x.Prev == t && !(x.Index < i))
	if granted {
		p.hard.Vote = x.From
		p.up.Reset = true
	}
	p.send(api.Letter{Kind: 2, To: x.From, Ok: granted})
}

func (p *paper) hearLeader(x api.Letter) {
	if x.Term < p.hard.Term {
		p.send(api.Letter{Kind: 4, To: x.From})
		return
	}
	if p.role == 2 {
		return
	}
	p.followTerm(x.Term)
	p.leader = x.From
	p.up.Reset = true
	if x.Kind == 3 {
		p.hearAppend(x)
		return
	}
	if x.Index > p.commit {
		if x.Prev > x.Term {
			return
		}
		if p.log.Install(api.Snapshot{Index: x.Index, Term: x.Prev, Config: x.Commit, Data: x.Data}) != api.OK {
			return
		}
		p.commit = x.Index
		p.up.Install = true
		p.up.Entries = nil
	}
	p.send(api.Letter{Kind: 4, To: x.From, Index: x.Index, Ok: true})
}

func (p *paper) hearAppend(x api.Letter) {
	for _, y := range x.Entries {
		if y.Term > x.Term {
			return
		}
	}
	l, ok := p.log.Merge(x.Index, x.Prev, x.Entries)
	if !ok {
		at := p.commit
		if x.Index > 0 && x.Index-1 > p.commit {
			at = min(x.Index-1, p.last())
		}
		p.send(api.Letter{Kind: 4, To: x.From, Index: at})
		return
	}
	p.keep(l)
	h := x.Index + uint64(len(x.Entries))
	p.commit = max(p.commit, min(x.Commit, h))
	p.send(api.Letter{Kind: 4, To: x.From, Index: h, Ok: true})
}

func (p *paper) hearAppended(x api.Letter) {
	last := p.last()
	if !x.Ok {
		p.next[x.From] = 1 + max(p.match[x.From], min(x.Index, last))
		p.writeTo(x.From)
		return
	}
	if x.Index > last {
		return
	}
	p.match[x.From] = max(p.match[x.From], x.Index)
	p.next[x.From] = max(p.next[x.From], p.match[x.From]+1)
	p.advance()
	if p.role != 2 || p.next[x.From] > last || !quorum.Has(p.members(), x.From) {
		return
	}
	p.next[x.From] = p.match[x.From] + 1
	p.writeTo(x.From)
}

// A walker leads a node and its paper through the same calls.
type walker struct {
	*rand.Rand
	r     *raft.Raft
	p     *paper
	trail []string // the calls so far
}

// entriesOf: all of a log.
func entriesOf(g *rlog.Log) []api.Entry { return g.Get(g.First().Index+1, math.MaxInt) }

// plain is what was taken with nil for each list without entries: these may be one or the other.
func plain(y raft.Ready) raft.Ready {
	if len(y.Entries) == 0 {
		y.Entries = nil
	}
	if len(y.Letters) == 0 {
		y.Letters = nil
	}
	y.Letters = slices.Clone(y.Letters)
	for i := range y.Letters {
		if len(y.Letters[i].Entries) == 0 {
			y.Letters[i].Entries = nil
		}
	}
	return y
}

// brief is a thing as a text, not wholly if that is long.
func brief(x any) string {
	s := fmt.Sprintf("%+v", x)
	return s[:min(len(s), 2000)]
}

// begun: a walker with a node that begins with some log.
func begun(t *testing.T, seed uint64) *walker {
	w := &walker{Rand: rand.New(rand.NewPCG(seed, 12))}
	s := api.Snapshot{Config: w.Uint64N(127) + 1, Term: w.Uint64N(3), Data: "s"}
	if w.IntN(3) == 0 {
		s.Config = []uint64{1, 3, 7, 5}[w.IntN(4)]
	}
	if w.IntN(2) == 0 {
		s.Index = []uint64{1, 2, 5, 9, 1<<62 - 3, 1 << 62}[w.IntN(6)]
	}
	var l []api.Entry
	term := s.Term
	for range w.IntN(8) {
		term += w.Uint64N(5) / 4
		l = append(l, w.entry(s.Index+uint64(len(l))+1, term))
	}
	h := api.Hard{Term: term + w.Uint64N(3), Vote: w.IntN(8) - 1}
	if w.IntN(20) == 0 {
		h.Term = math.MaxUint64 - w.Uint64N(3)
	}
	id := w.IntN(7)
	g, e := rlog.New(s, l)
	mine, _ := rlog.New(s, l)
	r, f := raft.New(id, h, g)
	if e != api.OK || f != api.OK {
		t.Fatalf("seed %d: %d, %d", seed, int(e), int(f))
	}
	w.r, w.p = r, paperOf(id, h, mine)
	w.trail = []string{brief([]any{"New", id, h, s, l})}
	return w
}

// entry: some entry that may lie there.
func (w *walker) entry(index, term uint64) api.Entry {
	x := api.Entry{Index: index, Term: term, Kind: w.IntN(2)}
	if x.Kind == 1 {
		x.Data = string(rune('a' + w.IntN(26)))
	}
	if w.IntN(5) == 0 {
		x.Kind, x.Data = 2, rlog.Config(w.Uint64N(127)+1)
	}
	return x
}

// index: one that may matter.
func (w *walker) index() uint64 {
	first, last, commit := w.p.log.First().Index, w.p.last(), w.p.commit
	l := []uint64{0, 1, first - 1, first, first + 1, commit - 1, commit, commit + 1, last - 1, last, last + 1, last + 2, w.Uint64N(12), 1<<62 - 1, 1 << 62, 1<<62 + 1, math.MaxUint64}
	if w.IntN(4) > 0 && first <= last {
		return first + w.Uint64N(last-first+2)
	}
	return l[w.IntN(len(l))]
}

// term: one that may matter.
func (w *walker) term() uint64 {
	h := w.p.hard.Term
	switch k := w.IntN(60); {
	case k == 0:
		return math.MaxUint64
	case k < 4:
		return h + 1 + w.Uint64N(2)
	case k < 12 && h > 0:
		return h - 1
	case k < 14:
		return w.Uint64N(3)
	}
	return h
}

// entries: some that might be of a leader's log, behind an index of a term, or nearly.
func (w *walker) entries(index, term, most uint64) []api.Entry {
	if w.IntN(4) == 0 {
		return nil
	}
	var l []api.Entry
	there := w.IntN(2) == 0
	for i := range uint64(w.IntN(10)) {
		if old := w.p.log.Get(index+i+1, 1); there && len(old) == 1 && w.IntN(5) > 0 {
			l = append(l, old[0])
			term = old[0].Term
			continue
		}
		there = false
		if w.IntN(3) == 0 && term < most {
			term++
		}
		l = append(l, w.entry(index+i+1, term))
	}
	if len(l) > 0 && w.IntN(8) == 0 {
		w.spoil(&l[w.IntN(len(l))], most)
	}
	return l
}

// spoil: an entry that may not lie there, or not come so.
func (w *walker) spoil(x *api.Entry, most uint64) {
	switch w.IntN(6) {
	case 0:
		x.Index++
	case 1:
		x.Term = 0
	case 2:
		x.Term = most + 1
	case 3:
		x.Kind = 3
	case 4:
		x.Kind, x.Data = 1, strings.Repeat("x", 32769)
	case 5:
		x.Kind, x.Data = 2, rlog.Config(128)
	}
}

// letter: some letter.
func (w *walker) letter() api.Letter {
	x := api.Letter{Kind: w.IntN(5) + 1, To: w.p.id, Term: w.term(), Index: w.index(), Ok: w.IntN(3) > 0}
	x.From = (w.p.id + 1 + w.IntN(6)) % 7
	x.Commit = w.index()
	if t, e := w.p.log.Term(x.Index); e == api.OK {
		x.Prev = t
	}
	if w.IntN(6) == 0 {
		x.Prev = w.term()
	}
	if x.Kind == 5 {
		x.Data = "snapshot"
		x.Commit = w.Uint64N(127) + 1
		if w.IntN(8) == 0 {
			x.Commit = []uint64{0, 128}[w.IntN(2)]
		}
	}
	if x.Kind == 3 {
		x.Entries = w.entries(x.Index, x.Prev, x.Term)
	}
	switch w.IntN(80) {
	case 0:
		x.Kind = []int{-1, 0, 6, 7, 8, 9, math.MaxInt, math.MinInt}[w.IntN(8)]
	case 1:
		x.From = []int{x.To, -1, 7, 100, math.MaxInt, math.MinInt}[w.IntN(6)]
	case 2:
		x.To = []int{x.From, -1, 7, math.MaxInt}[w.IntN(4)]
	}
	return x
}

// call: both do the same, and answer the same.
func (w *walker) call(t *testing.T, what string, do func(n node) any) {
	t.Helper()
	w.trail = append(w.trail, what)
	got, want := do(w.r), do(w.p)
	if !reflect.DeepEqual(got, want) {
		t.Fatalf("%s\nanswers %s\nwant    %s", strings.Join(w.trail, "\n"), brief(got), brief(want))
	}
}

// A node: what both are.
type node interface {
	Take() raft.Ready
	Timeout()
	Beat()
	Propose(data string) (uint64, api.Errno)
	Change(add bool, id int) (uint64, api.Errno)
	Receive(x api.Letter)
	Compact(i uint64, data string) api.Errno
	Status() (int, int, api.Hard, uint64)
}

// elect: an election, with votes of all others.
func (w *walker) elect(t *testing.T) {
	w.call(t, "Timeout", func(n node) any { n.Timeout(); return nil })
	for id := range 7 {
		x := api.Letter{Kind: 2, From: id, To: w.p.id, Term: w.p.hard.Term, Ok: true}
		w.call(t, brief(x), func(n node) any { n.Receive(x); return nil })
	}
}

// step: some call.
func (w *walker) step(t *testing.T) {
	switch k := w.IntN(40); {
	case k == 0:
		w.elect(t)
	case k == 1:
		w.call(t, "Timeout", func(n node) any { n.Timeout(); return nil })
	case k == 2:
		w.call(t, "Beat", func(n node) any { n.Beat(); return nil })
	case k < 8:
		data := []string{"", "p", strings.Repeat("q", 32768), strings.Repeat("q", 32769)}[max(0, w.IntN(20)-16)]
		w.call(t, brief([]any{"Propose", len(data)}), func(n node) any {
			i, e := n.Propose(data)
			return []any{i, e}
		})
	case k < 11:
		add, id := w.IntN(2) == 0, w.IntN(9)-1
		w.call(t, brief([]any{"Change", add, id}), func(n node) any {
			i, e := n.Change(add, id)
			return []any{i, e}
		})
	case k < 13:
		i := w.index()
		w.call(t, brief([]any{"Compact", i}), func(n node) any { return n.Compact(i, "c") })
	default:
		x := w.letter()
		if w.p.role == 2 && w.IntN(2) == 0 { // of one that follows
			x.Kind, x.Term, x.Entries = 4, w.p.hard.Term, nil
		}
		w.call(t, brief(x), func(n node) any { n.Receive(x); return nil })
	}
}

// hold: all that a node tells is what its paper tells.
func (w *walker) hold(t *testing.T) {
	w.call(t, "Status", func(n node) any {
		role, leader, h, c := n.Status()
		return []any{role, leader, h, c}
	})
	if w.IntN(3) > 0 {
		w.call(t, "Take", func(n node) any { return plain(n.Take()) })
	}
	if g, m := w.r.Log(), w.p.log; g.First() != m.First() || !slices.Equal(entriesOf(g), entriesOf(m)) {
		t.Fatalf("%s\nlog  %s %s\nwant %s %s", strings.Join(w.trail, "\n"), brief(g.First()), brief(entriesOf(g)), brief(m.First()), brief(entriesOf(m)))
	}
}

func TestAllCallsByTheWords(t *testing.T) {
	for seed := range uint64(4000) {
		w := begun(t, seed)
		if w.IntN(2) == 0 {
			w.elect(t)
		}
		for range 60 {
			w.step(t)
			w.hold(t)
		}
	}
}
