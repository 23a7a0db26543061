package raft_test

import (
	"math"
	"reflect"
	"slices"
	"strings"
	"testing"

	"tontine/api"
	"tontine/raft"
	"tontine/rlog"
)

// greatest is the greatest term.
const greatest uint64 = math.MaxUint64

func none(term, index uint64) api.Entry { return api.Entry{Term: term, Index: index} }

func command(term, index uint64, data string) api.Entry {
	return api.Entry{Term: term, Index: index, Kind: 1, Data: data}
}

func config(term, index, c uint64) api.Entry {
	return api.Entry{Term: term, Index: index, Kind: 2, Data: rlog.Config(c)}
}

func asks(from, to int, term, index, prev uint64) api.Letter {
	return api.Letter{Kind: 1, From: from, To: to, Term: term, Index: index, Prev: prev}
}

func votes(from, to int, term uint64, ok bool) api.Letter {
	return api.Letter{Kind: 2, From: from, To: to, Term: term, Ok: ok}
}

func appends(from, to int, term, index, prev, commit uint64, l ...api.Entry) api.Letter {
	return api.Letter{Kind: 3, From: from, To: to, Term: term, Index: index, Prev: prev, Commit: commit, Entries: l}
}

func appended(from, to int, term, index uint64, ok bool) api.Letter {
	return api.Letter{Kind: 4, From: from, To: to, Term: term, Index: index, Ok: ok}
}

func installs(from, to int, term, index, prev, config uint64, data string) api.Letter {
	return api.Letter{Kind: 5, From: from, To: to, Term: term, Index: index, Prev: prev, Commit: config, Data: data}
}

// made: a node with a log.
func made(t *testing.T, id int, h api.Hard, s api.Snapshot, l ...api.Entry) *raft.Raft {
	t.Helper()
	g, e := rlog.New(s, l)
	if e != api.OK {
		t.Fatal("no log:", int(e))
	}
	r, e := raft.New(id, h, g)
	if e != api.OK || r == nil {
		t.Fatal("no node:", int(e))
	}
	return r
}

// fresh: node 0 of those of a set, at the beginning.
func fresh(t *testing.T, c uint64) *raft.Raft {
	t.Helper()
	return made(t, 0, api.Hard{Vote: -1}, api.Snapshot{Config: c})
}

// leads: the node leads, in a term more, by all others' votes; what came up is taken.
func leads(t *testing.T, r *raft.Raft, id int) *raft.Raft {
	t.Helper()
	r.Timeout()
	_, _, h, _ := r.Status()
	for from := range 7 {
		r.Receive(votes(from, id, h.Term, true))
	}
	r.Take()
	if role, leader, _, _ := r.Status(); role != raft.Leader || leader != id {
		t.Fatal("it doesn't lead:", role, leader)
	}
	return r
}

// taken: what is taken is that.
func taken(t *testing.T, r *raft.Raft, want raft.Ready) {
	t.Helper()
	if got := plain(r.Take()); !reflect.DeepEqual(got, plain(want)) {
		t.Fatalf("taken %s\nwant  %s", brief(got), brief(want))
	}
}

// letters: what is taken is no more than these letters, as far as it is told.
func letters(t *testing.T, r *raft.Raft, l ...api.Letter) {
	t.Helper()
	got, want := plain(r.Take()), plain(raft.Ready{Letters: l})
	if !reflect.DeepEqual(got.Letters, want.Letters) {
		t.Fatalf("letters %s\nwant    %s", brief(got.Letters), brief(want.Letters))
	}
}

// status: that is the node's.
func status(t *testing.T, r *raft.Raft, role, leader int, h api.Hard, commit uint64) {
	t.Helper()
	if a, b, c, d := r.Status(); a != role || b != leader || c != h || d != commit {
		t.Fatalf("status %d %d %+v %d; want %d %d %+v %d", a, b, c, d, role, leader, h, commit)
	}
}

// logged: those are the log's entries.
func logged(t *testing.T, r *raft.Raft, l ...api.Entry) {
	t.Helper()
	if got := entriesOf(r.Log()); !slices.Equal(got, l) {
		t.Fatalf("the log has %s; want %s", brief(got), brief(l))
	}
}

func TestNew(t *testing.T) {
	log := func(s api.Snapshot, l ...api.Entry) *rlog.Log {
		s.Config = 7
		g, e := rlog.New(s, l)
		if e != api.OK {
			t.Fatal(int(e))
		}
		return g
	}
	empty := api.Snapshot{}
	cases := []struct {
		what string
		id   int
		h    api.Hard
		g    *rlog.Log
		want api.Errno
	}{
		{"all at the beginning", 0, api.Hard{Vote: -1}, log(empty), api.OK},
		{"the greatest number, and vote", 6, api.Hard{Vote: 6}, log(empty), api.OK},
		{"a vote for 0", 6, api.Hard{Vote: 0}, log(empty), api.OK},
		{"not a member", 5, api.Hard{Vote: -1}, log(empty), api.OK},
		{"below 0", -1, api.Hard{Vote: -1}, log(empty), api.ErrArg},
		{"above 6", 7, api.Hard{Vote: -1}, log(empty), api.ErrArg},
		{"far above", math.MaxInt, api.Hard{Vote: -1}, log(empty), api.ErrArg},
		{"no log", 0, api.Hard{Vote: -1}, nil, api.ErrArg},
		{"a vote below -1", 0, api.Hard{Vote: -2}, log(empty), api.ErrArg},
		{"a vote above 6", 0, api.Hard{Vote: 7}, log(empty), api.ErrArg},
		{"an entry of the term", 0, api.Hard{Term: 3, Vote: -1}, log(empty, none(1, 1), none(3, 2)), api.OK},
		{"an entry of a term above", 0, api.Hard{Term: 2, Vote: -1}, log(empty, none(1, 1), none(3, 2)), api.ErrArg},
		{"a snapshot of the term", 0, api.Hard{Term: 3, Vote: -1}, log(api.Snapshot{Index: 4, Term: 3}), api.OK},
		{"a snapshot of a term above", 0, api.Hard{Term: 2, Vote: -1}, log(api.Snapshot{Index: 4, Term: 3}), api.ErrArg},
		{"a last index of 2^63", 0, api.Hard{Vote: -1}, log(api.Snapshot{Index: 1 << 63}), api.OK},
		{"a last index above 2^63", 0, api.Hard{Vote: -1}, log(api.Snapshot{Index: 1<<63 + 1}), api.ErrArg},
		{"a last entry at 2^63", 0, api.Hard{Vote: -1}, log(api.Snapshot{Index: 1<<63 - 1}, none(0, 1<<63)), api.OK},
		{"a last entry above 2^63", 0, api.Hard{Vote: -1}, log(api.Snapshot{Index: 1 << 63}, none(0, 1<<63+1)), api.ErrArg},
		{"the greatest index", 0, api.Hard{Vote: -1}, log(api.Snapshot{Index: greatest}), api.ErrArg},
		{"the greatest term", 0, api.Hard{Term: greatest, Vote: -1}, log(api.Snapshot{Index: 1, Term: greatest}), api.OK},
	}
	for _, c := range cases {
		r, e := raft.New(c.id, c.h, c.g)
		if e != c.want || (r == nil) != (e != api.OK) {
			t.Fatalf("%s: %v, %d", c.what, r, int(e))
		}
		if e != api.OK {
			continue
		}
		if r.Log() != c.g {
			t.Fatalf("%s: another log", c.what)
		}
		commit := c.g.First().Index
		status(t, r, raft.Follower, -1, c.h, commit)
		taken(t, r, raft.Ready{Hard: c.h, Commit: commit})
	}
}

func TestRolesByNumber(t *testing.T) {
	if raft.Follower != 0 || raft.Candidate != 1 || raft.Leader != 2 {
		t.Fatal(raft.Follower, raft.Candidate, raft.Leader)
	}
}

func TestNil(t *testing.T) {
	var r *raft.Raft
	r.Timeout()
	r.Beat()
	r.Receive(asks(1, 0, 1, 0, 0))
	status(t, r, 0, -1, api.Hard{Vote: -1}, 0)
	if y := r.Take(); !reflect.DeepEqual(y, raft.Ready{}) {
		t.Fatal(y)
	}
	if i, e := r.Propose("a"); i != 0 || e != api.ErrLeader {
		t.Fatal(i, int(e))
	}
	if i, e := r.Change(true, 1); i != 0 || e != api.ErrLeader {
		t.Fatal(i, int(e))
	}
	if e := r.Compact(0, ""); e != api.ErrArg {
		t.Fatal(int(e))
	}
	if r.Log() != nil {
		t.Fatal("a log")
	}
}

// The chapter's example.
func TestExample(t *testing.T) {
	r := fresh(t, 7)
	r.Timeout()
	taken(t, r, raft.Ready{Hard: api.Hard{Term: 1}, Reset: true, Letters: []api.Letter{asks(0, 1, 1, 0, 0), asks(0, 2, 1, 0, 0)}})
	status(t, r, raft.Candidate, -1, api.Hard{Term: 1}, 0)
	r.Receive(votes(2, 0, 1, true))
	status(t, r, raft.Leader, 0, api.Hard{Term: 1}, 0)
	one := none(1, 1)
	taken(t, r, raft.Ready{Hard: api.Hard{Term: 1}, Entries: []api.Entry{one}, Letters: []api.Letter{appends(0, 1, 1, 0, 0, 0, one), appends(0, 2, 1, 0, 0, 0, one)}})
	taken(t, r, raft.Ready{Hard: api.Hard{Term: 1}})
	logged(t, r, one)
}

func TestTimeoutAsksAnew(t *testing.T) {
	r := made(t, 2, api.Hard{Term: 4, Vote: 1}, api.Snapshot{Index: 3, Term: 2, Config: 0b1010101}, none(3, 4), none(4, 5))
	want := func(term uint64) []api.Letter {
		return []api.Letter{asks(2, 0, term, 5, 4), asks(2, 4, term, 5, 4), asks(2, 6, term, 5, 4)}
	}
	r.Receive(appends(4, 2, 4, 5, 4, 4))
	status(t, r, raft.Follower, 4, api.Hard{Term: 4, Vote: 1}, 4)
	r.Take()
	r.Timeout()
	status(t, r, raft.Candidate, -1, api.Hard{Term: 5, Vote: 2}, 4)
	taken(t, r, raft.Ready{Hard: api.Hard{Term: 5, Vote: 2}, Commit: 4, Reset: true, Letters: want(5)})
	r.Receive(votes(0, 2, 5, true))
	r.Timeout()
	taken(t, r, raft.Ready{Hard: api.Hard{Term: 6, Vote: 2}, Commit: 4, Reset: true, Letters: want(6)})
	// The vote of term 5 is gone: two more are needed.
	r.Receive(votes(4, 2, 6, true))
	status(t, r, raft.Candidate, -1, api.Hard{Term: 6, Vote: 2}, 4)
	r.Receive(votes(0, 2, 6, true))
	status(t, r, raft.Leader, 2, api.Hard{Term: 6, Vote: 2}, 4)
	r.Take()
	r.Timeout()
	status(t, r, raft.Leader, 2, api.Hard{Term: 6, Vote: 2}, 4)
	taken(t, r, raft.Ready{Hard: api.Hard{Term: 6, Vote: 2}, Commit: 4})
}

func TestTimeoutOfOneAlone(t *testing.T) {
	r := fresh(t, 1)
	r.Timeout()
	status(t, r, raft.Leader, 0, api.Hard{Term: 1}, 1)
	taken(t, r, raft.Ready{Hard: api.Hard{Term: 1}, Entries: []api.Entry{none(1, 1)}, Reset: true, Commit: 1})
}

func TestTimeoutInTheGreatestTerm(t *testing.T) {
	r := made(t, 0, api.Hard{Term: greatest - 1, Vote: -1}, api.Snapshot{Config: 3})
	r.Timeout()
	status(t, r, raft.Candidate, -1, api.Hard{Term: greatest}, 0)
	r.Take()
	r.Timeout()
	status(t, r, raft.Candidate, -1, api.Hard{Term: greatest}, 0)
	taken(t, r, raft.Ready{Hard: api.Hard{Term: greatest}})
	r.Receive(votes(1, 0, greatest, true))
	status(t, r, raft.Leader, 0, api.Hard{Term: greatest}, 0)
}

func TestWhoMayStand(t *testing.T) {
	h := api.Hard{Term: 2, Vote: -1}
	cases := []struct {
		what   string
		snap   uint64
		l      []api.Entry
		commit uint64
		may    bool
	}{
		{"a member all along", 7, nil, 0, true},
		{"no member", 6, nil, 0, false},
		{"a member by what isn't agreed upon", 6, []api.Entry{config(2, 1, 7)}, 0, true},
		{"a member by what is", 6, []api.Entry{config(2, 1, 7)}, 1, true},
		{"no member by what isn't agreed upon", 7, []api.Entry{config(2, 1, 6)}, 0, true},
		{"no member by what is", 7, []api.Entry{config(2, 1, 6)}, 1, false},
		{"no member at both ends", 6, []api.Entry{config(2, 1, 7), config(2, 2, 6)}, 0, false},
		{"no member by the last of two", 6, []api.Entry{config(2, 1, 7), config(2, 2, 6)}, 1, true},
	}
	for _, c := range cases {
		r := made(t, 0, h, api.Snapshot{Config: c.snap}, c.l...)
		r.Receive(appends(1, 0, 2, uint64(len(c.l)), []uint64{0, 2}[min(1, len(c.l))], c.commit))
		r.Take()
		status(t, r, raft.Follower, 1, h, c.commit)
		r.Timeout()
		if role, _, g, _ := r.Status(); (role == raft.Candidate) != c.may || (g.Term == 3) != c.may {
			t.Fatalf("%s: role %d, term %d", c.what, role, g.Term)
		}
		if y := r.Take(); y.Reset != c.may || (len(y.Letters) > 0) != c.may {
			t.Fatalf("%s: %s", c.what, brief(y))
		}
	}
}

func TestVotes(t *testing.T) {
	r := fresh(t, 31)
	r.Receive(votes(1, 0, 0, true)) // of no candidate
	r.Timeout()
	r.Take()
	for _, x := range []api.Letter{
		votes(1, 0, 1, false), votes(2, 0, 1, false), // they don't vote for it
		votes(1, 0, 0, true), votes(2, 0, 0, true), // of another term
		votes(1, 0, 1, true), votes(1, 0, 1, true), // twice
		votes(5, 0, 1, true), votes(6, 0, 1, true), // of no members
	} {
		r.Receive(x)
		status(t, r, raft.Candidate, -1, api.Hard{Term: 1}, 0)
		taken(t, r, raft.Ready{Hard: api.Hard{Term: 1}})
	}
	r.Receive(votes(4, 0, 1, true))
	status(t, r, raft.Leader, 0, api.Hard{Term: 1}, 0)
	r.Take()
	r.Receive(votes(3, 0, 1, true))
	taken(t, r, raft.Ready{Hard: api.Hard{Term: 1}})
	r.Receive(votes(3, 0, 2, false)) // a greater term: whoever tells it
	status(t, r, raft.Follower, -1, api.Hard{Term: 2, Vote: -1}, 0)
	taken(t, r, raft.Ready{Hard: api.Hard{Term: 2, Vote: -1}})
}

// One that isn't a member any more by what isn't agreed upon needs a majority of the others.
func TestVotesForOneThatGoes(t *testing.T) {
	r := made(t, 0, api.Hard{Term: 1, Vote: -1}, api.Snapshot{Config: 7}, config(1, 1, 6))
	r.Timeout()
	letters(t, r, asks(0, 1, 2, 1, 1), asks(0, 2, 2, 1, 1))
	r.Receive(votes(1, 0, 2, true))
	status(t, r, raft.Candidate, -1, api.Hard{Term: 2}, 0)
	r.Receive(votes(2, 0, 2, true))
	status(t, r, raft.Leader, 0, api.Hard{Term: 2}, 0)
}

func TestAsks(t *testing.T) {
	h := api.Hard{Term: 5, Vote: -1}
	cases := []struct {
		what string
		h    api.Hard
		x    api.Letter
		ok   bool
		then api.Hard
	}{
		{"the same log", h, asks(1, 0, 5, 4, 3), true, api.Hard{Term: 5, Vote: 1}},
		{"a longer log", h, asks(1, 0, 5, 9, 3), true, api.Hard{Term: 5, Vote: 1}},
		{"a shorter log", h, asks(1, 0, 5, 3, 3), false, h},
		{"a shorter log of a later term", h, asks(1, 0, 5, 0, 4), true, api.Hard{Term: 5, Vote: 1}},
		{"a longer log of an elder term", h, asks(1, 0, 5, 9, 2), false, h},
		{"of an elder term", h, asks(1, 0, 4, 9, 3), false, h},
		{"of a later term", h, asks(1, 0, 6, 4, 3), true, api.Hard{Term: 6, Vote: 1}},
		{"of a later term, with an elder log", h, asks(1, 0, 6, 3, 3), false, api.Hard{Term: 6, Vote: -1}},
		{"once more", api.Hard{Term: 5, Vote: 1}, asks(1, 0, 5, 4, 3), true, api.Hard{Term: 5, Vote: 1}},
		{"another one was voted for", api.Hard{Term: 5, Vote: 2}, asks(1, 0, 5, 9, 5), false, api.Hard{Term: 5, Vote: 2}},
		{"it voted for itself", api.Hard{Term: 5, Vote: 0}, asks(1, 0, 5, 9, 5), false, api.Hard{Term: 5, Vote: 0}},
		{"another one was, in an elder term", api.Hard{Term: 5, Vote: 2}, asks(1, 0, 6, 9, 5), true, api.Hard{Term: 6, Vote: 1}},
		{"of no member", h, asks(6, 0, 5, 4, 3), true, api.Hard{Term: 5, Vote: 6}},
		{"the greatest term, and index", h, asks(1, 0, greatest, 1<<62, greatest), true, api.Hard{Term: greatest, Vote: 1}},
	}
	for _, c := range cases {
		r := made(t, 0, c.h, api.Snapshot{Index: 2, Term: 3, Config: 7}, none(3, 3), none(3, 4))
		r.Receive(c.x)
		status(t, r, raft.Follower, -1, c.then, 2)
		y := r.Take()
		if want := votes(0, c.x.From, c.then.Term, c.ok); len(y.Letters) != 1 || !reflect.DeepEqual(y.Letters[0], want) || y.Reset != c.ok || y.Hard != c.then {
			t.Fatalf("%s: %s", c.what, brief(y))
		}
	}
}

// Who stands, or leads, votes for nobody else in its term; a greater one makes it a follower.
func TestAsksOfOthers(t *testing.T) {
	r := fresh(t, 7)
	r.Timeout()
	r.Take()
	r.Receive(asks(1, 0, 1, 9, 1))
	taken(t, r, raft.Ready{Hard: api.Hard{Term: 1}, Letters: []api.Letter{votes(0, 1, 1, false)}})
	status(t, r, raft.Candidate, -1, api.Hard{Term: 1}, 0)
	r.Receive(votes(1, 0, 1, true))
	r.Take()
	r.Receive(asks(2, 0, 1, 9, 1))
	taken(t, r, raft.Ready{Hard: api.Hard{Term: 1}, Letters: []api.Letter{votes(0, 2, 1, false)}})
	status(t, r, raft.Leader, 0, api.Hard{Term: 1}, 0)
	r.Receive(asks(2, 0, 2, 0, 0)) // with an elder log
	status(t, r, raft.Follower, -1, api.Hard{Term: 2, Vote: -1}, 0)
	taken(t, r, raft.Ready{Hard: api.Hard{Term: 2, Vote: -1}, Letters: []api.Letter{votes(0, 2, 2, false)}})
	r.Receive(asks(1, 0, 2, 1, 1))
	taken(t, r, raft.Ready{Hard: api.Hard{Term: 2, Vote: 1}, Reset: true, Letters: []api.Letter{votes(0, 1, 2, true)}})
}

func TestLettersThatAreNotHeard(t *testing.T) {
	h := api.Hard{Term: 3, Vote: -1}
	snap := api.Snapshot{Config: 7}
	good := func(kind int) api.Letter { return api.Letter{Kind: kind, From: 1, To: 0, Term: 9} }
	var l []api.Letter
	for _, kind := range []int{math.MinInt, -1, 0, 6, 7, 8, 9, 10, math.MaxInt} {
		l = append(l, good(kind))
	}
	for kind := 1; kind <= 5; kind++ {
		for _, from := range []int{0, -1, 7, 100, 200, math.MinInt, math.MaxInt} {
			x := good(kind)
			x.From = from
			l = append(l, x)
		}
		for _, to := range []int{1, 2, -1, 7, 256} {
			x := good(kind)
			x.To = to
			l = append(l, x)
		}
		for _, index := range []uint64{1<<62 + 1, 1 << 63, greatest} {
			x := good(kind)
			x.Index = index
			l = append(l, x)
		}
	}
	for _, x := range l {
		r := made(t, 0, h, snap)
		r.Receive(x)
		status(t, r, raft.Follower, -1, h, 0)
		taken(t, r, raft.Ready{Hard: h})
	}
	for kind := 1; kind <= 5; kind++ {
		for from := 1; from <= 6; from++ {
			r := made(t, 0, h, snap)
			x := good(kind)
			x.From, x.Index = from, 1<<62
			r.Receive(x)
			if _, _, g, _ := r.Status(); g.Term != 9 {
				t.Fatalf("%s isn't heard", brief(x))
			}
		}
	}
}

// follower: node 0, in term 5, whose log has a snapshot at 2 of term 1, and entries 3 to 6 of terms 1, 2, 2, 4; the commit is 3.
func follower(t *testing.T) *raft.Raft {
	t.Helper()
	r := made(t, 0, api.Hard{Term: 5, Vote: 2}, api.Snapshot{Index: 2, Term: 1, Config: 7}, none(1, 3), none(2, 4), none(2, 5), none(4, 6))
	r.Receive(appends(1, 0, 5, 3, 1, 3))
	r.Take()
	status(t, r, raft.Follower, 1, api.Hard{Term: 5, Vote: 2}, 3)
	return r
}

func TestAppend(t *testing.T) {
	h := api.Hard{Term: 5, Vote: 2}
	all := []api.Entry{none(1, 3), none(2, 4), none(2, 5), none(4, 6)}
	c7, c8 := command(5, 7, "a"), command(5, 8, "b")
	cases := []struct {
		what string
		x    api.Letter
		want raft.Ready
		log  []api.Entry
	}{
		{"nothing new", appends(2, 0, 5, 6, 4, 3), raft.Ready{Commit: 3, Letters: []api.Letter{appended(0, 2, 5, 6, true)}}, all},
		{"one more", appends(2, 0, 5, 6, 4, 3, c7), raft.Ready{Commit: 3, Entries: []api.Entry{c7}, Letters: []api.Letter{appended(0, 2, 5, 7, true)}}, append(slices.Clone(all), c7)},
		{"two more, and the commit up to them", appends(2, 0, 5, 6, 4, 8, c7, c8), raft.Ready{Commit: 8, Entries: []api.Entry{c7, c8}, Letters: []api.Letter{appended(0, 2, 5, 8, true)}}, append(slices.Clone(all), c7, c8)},
		{"a commit above what it has", appends(2, 0, 5, 6, 4, greatest, c7), raft.Ready{Commit: 7, Entries: []api.Entry{c7}, Letters: []api.Letter{appended(0, 2, 5, 7, true)}}, append(slices.Clone(all), c7)},
		{"a commit above what it tells of, with more behind that", appends(2, 0, 5, 4, 2, 6), raft.Ready{Commit: 4, Letters: []api.Letter{appended(0, 2, 5, 4, true)}}, all},
		{"a commit in between", appends(2, 0, 5, 6, 4, 5), raft.Ready{Commit: 5, Letters: []api.Letter{appended(0, 2, 5, 6, true)}}, all},
		{"a commit below", appends(2, 0, 5, 6, 4, 1), raft.Ready{Commit: 3, Letters: []api.Letter{appended(0, 2, 5, 6, true)}}, all},
		{"some that are there, and what stays behind them", appends(2, 0, 5, 3, 1, 0, none(2, 4)), raft.Ready{Commit: 3, Letters: []api.Letter{appended(0, 2, 5, 4, true)}}, all},
		{"others in place of those there", appends(2, 0, 5, 4, 2, 0, none(2, 5), none(5, 6)), raft.Ready{Commit: 3, Entries: []api.Entry{none(5, 6)}, Letters: []api.Letter{appended(0, 2, 5, 6, true)}}, []api.Entry{none(1, 3), none(2, 4), none(2, 5), none(5, 6)}},
		{"others that are fewer", appends(2, 0, 5, 3, 1, 9, none(3, 4)), raft.Ready{Commit: 4, Entries: []api.Entry{none(3, 4)}, Letters: []api.Letter{appended(0, 2, 5, 4, true)}}, []api.Entry{none(1, 3), none(3, 4)}},
		{"the index isn't there", appends(2, 0, 5, 9, 5, 9), raft.Ready{Commit: 3, Letters: []api.Letter{appended(0, 2, 5, 6, false)}}, all},
		{"the index behind the last one", appends(2, 0, 5, 7, 5, 9), raft.Ready{Commit: 3, Letters: []api.Letter{appended(0, 2, 5, 6, false)}}, all},
		{"the last index has another term", appends(2, 0, 5, 6, 5, 9), raft.Ready{Commit: 3, Letters: []api.Letter{appended(0, 2, 5, 5, false)}}, all},
		{"the one above the commit has another term", appends(2, 0, 5, 4, 3, 9), raft.Ready{Commit: 3, Letters: []api.Letter{appended(0, 2, 5, 3, false)}}, all},
		{"the commit has another term", appends(2, 0, 5, 3, 3, 9), raft.Ready{Commit: 3, Letters: []api.Letter{appended(0, 2, 5, 3, false)}}, all},
		{"the snapshot has another term", appends(2, 0, 5, 2, 0, 9), raft.Ready{Commit: 3, Letters: []api.Letter{appended(0, 2, 5, 3, false)}}, all},
		{"the greatest index", appends(2, 0, 5, 1<<62, 5, 9), raft.Ready{Commit: 3, Letters: []api.Letter{appended(0, 2, 5, 6, false)}}, all},
		{"ahead of the snapshot", appends(2, 0, 5, 0, 0, 9), raft.Ready{Commit: 3, Letters: []api.Letter{appended(0, 2, 5, 0, true)}}, all},
		{"from ahead of the snapshot on", appends(2, 0, 5, 0, 0, 5, none(1, 1), none(1, 2), none(1, 3), none(2, 4)), raft.Ready{Commit: 4, Letters: []api.Letter{appended(0, 2, 5, 4, true)}}, all},
		{"entries that may not lie there", appends(2, 0, 5, 6, 4, 9, c8), raft.Ready{Commit: 3, Letters: []api.Letter{appended(0, 2, 5, 5, false)}}, all},
		{"entries that may not lie at the beginning", appends(2, 0, 5, 0, 0, 9, c8), raft.Ready{Commit: 3, Letters: []api.Letter{appended(0, 2, 5, 3, false)}}, all},
		{"an entry of a term above the letter's", appends(2, 0, 5, 6, 4, 9, c7, none(6, 8)), raft.Ready{Commit: 3}, all},
		{"such a one that may not lie there", appends(2, 0, 5, 9, 4, 9, none(6, 8)), raft.Ready{Commit: 3}, all},
	}
	for _, c := range cases {
		r := follower(t)
		r.Receive(c.x)
		status(t, r, raft.Follower, 2, h, c.want.Commit)
		c.want.Hard, c.want.Reset = h, true
		if got := plain(r.Take()); !reflect.DeepEqual(got, plain(c.want)) {
			t.Fatalf("%s: taken %s\nwant %s", c.what, brief(got), brief(c.want))
		}
		logged(t, r, c.log...)
	}
}

// Ahead of all that was agreed upon a node tells the commit, 0, however far ahead the leader is.
func TestAppendToAnEmptyLog(t *testing.T) {
	r := fresh(t, 7)
	r.Receive(appends(1, 0, 1, 5, 1, 5))
	letters(t, r, appended(0, 1, 1, 0, false))
	r.Receive(appends(1, 0, 1, 1, 1, 5))
	letters(t, r, appended(0, 1, 1, 0, false))
	r.Receive(appends(1, 0, 1, 0, 1, 5))
	letters(t, r, appended(0, 1, 1, 0, false))
	r.Receive(appends(1, 0, 1, 0, 0, 5, none(1, 1)))
	taken(t, r, raft.Ready{Hard: api.Hard{Term: 1, Vote: -1}, Entries: []api.Entry{none(1, 1)}, Reset: true, Commit: 1, Letters: []api.Letter{appended(0, 1, 1, 1, true)}})
}

// What leads in a term below is told the term, and nothing else comes of it.
func TestWrittenInAnElderTerm(t *testing.T) {
	for _, x := range []api.Letter{
		appends(2, 0, 4, 6, 4, 6, none(4, 7)), appends(2, 0, 4, 3, 1, 6, none(3, 4)), appends(2, 0, 0, 0, 0, 0),
		installs(2, 0, 4, 9, 4, 7, "s"), installs(2, 0, 4, 1, 1, 7, "s"),
	} {
		r := follower(t)
		r.Receive(x)
		status(t, r, raft.Follower, 1, api.Hard{Term: 5, Vote: 2}, 3)
		taken(t, r, raft.Ready{Hard: api.Hard{Term: 5, Vote: 2}, Commit: 3, Letters: []api.Letter{appended(0, 2, 5, 0, false)}})
		logged(t, r, none(1, 3), none(2, 4), none(2, 5), none(4, 6))
		r.Timeout()
		r.Take()
		x.Term++
		r.Receive(x) // a candidate stays one
		status(t, r, raft.Candidate, -1, api.Hard{Term: 6}, 3)
		taken(t, r, raft.Ready{Hard: api.Hard{Term: 6}, Commit: 3, Letters: []api.Letter{appended(0, 2, 6, 0, false)}})
	}
}

// Who leads takes nothing of its own term, but follows a greater one.
func TestWrittenToALeader(t *testing.T) {
	for _, x := range []api.Letter{appends(2, 0, 0, 1, 1, 1, none(0, 2)), installs(2, 0, 0, 9, 0, 7, "s")} {
		r := leads(t, fresh(t, 7), 0)
		r.Receive(x)
		taken(t, r, raft.Ready{Hard: api.Hard{Term: 1}, Letters: []api.Letter{appended(0, 2, 1, 0, false)}})
		x.Term = 1
		r.Receive(x)
		taken(t, r, raft.Ready{Hard: api.Hard{Term: 1}})
		status(t, r, raft.Leader, 0, api.Hard{Term: 1}, 0)
		x.Term = 2
		r.Receive(x)
		if role, leader, h, _ := r.Status(); role != raft.Follower || leader != 2 || h != (api.Hard{Term: 2, Vote: -1}) {
			t.Fatal(role, leader, h)
		}
	}
}

// A candidate follows who leads in its term, and keeps its vote.
func TestWrittenToACandidate(t *testing.T) {
	for _, x := range []api.Letter{appends(2, 0, 6, 6, 4, 3), installs(2, 0, 6, 1, 1, 7, "s"), appends(2, 0, 6, 6, 4, 3, none(7, 7))} {
		r := follower(t)
		r.Timeout()
		r.Take()
		r.Receive(x)
		status(t, r, raft.Follower, 2, api.Hard{Term: 6}, 3)
		if !r.Take().Reset {
			t.Fatal("no reset")
		}
		r.Receive(votes(1, 0, 6, true)) // too late
		r.Receive(votes(2, 0, 6, true))
		status(t, r, raft.Follower, 2, api.Hard{Term: 6}, 3)
	}
}

func TestInstall(t *testing.T) {
	h := api.Hard{Term: 5, Vote: 2}
	old := api.Snapshot{Index: 2, Term: 1, Config: 7}
	all := []api.Entry{none(1, 3), none(2, 4), none(2, 5), none(4, 6)}
	ok := func(i uint64) []api.Letter { return []api.Letter{appended(0, 2, 5, i, true)} }
	cases := []struct {
		what string
		x    api.Letter
		want raft.Ready
		snap api.Snapshot
		log  []api.Entry
	}{
		{"above all", installs(2, 0, 5, 9, 5, 15, "s"), raft.Ready{Commit: 9, Install: true, Letters: ok(9)}, api.Snapshot{Index: 9, Term: 5, Config: 15, Data: "s"}, nil},
		{"within the log", installs(2, 0, 5, 4, 2, 15, "s"), raft.Ready{Commit: 4, Install: true, Letters: ok(4)}, api.Snapshot{Index: 4, Term: 2, Config: 15, Data: "s"}, all[2:]},
		{"within, of another term", installs(2, 0, 5, 4, 3, 15, ""), raft.Ready{Commit: 4, Install: true, Letters: ok(4)}, api.Snapshot{Index: 4, Term: 3, Config: 15}, nil},
		{"at the commit", installs(2, 0, 5, 3, 1, 15, "s"), raft.Ready{Commit: 3, Letters: ok(3)}, old, all},
		{"below the commit", installs(2, 0, 5, 0, 0, 15, "s"), raft.Ready{Commit: 3, Letters: ok(0)}, old, all},
		{"at the commit, no set", installs(2, 0, 5, 3, 9, 0, "s"), raft.Ready{Commit: 3, Letters: ok(3)}, old, all},
		{"no set", installs(2, 0, 5, 4, 2, 0, "s"), raft.Ready{Commit: 3}, old, all},
		{"no set of nodes", installs(2, 0, 5, 4, 2, 128, "s"), raft.Ready{Commit: 3}, old, all},
		{"a term above the letter's", installs(2, 0, 5, 9, 6, 7, "s"), raft.Ready{Commit: 3}, old, all},
		{"the greatest index", installs(2, 0, 5, 1<<62, 5, 7, "s"), raft.Ready{Commit: 1 << 62, Install: true, Letters: ok(1 << 62)}, api.Snapshot{Index: 1 << 62, Term: 5, Config: 7, Data: "s"}, nil},
	}
	for _, c := range cases {
		r := follower(t)
		r.Receive(c.x)
		status(t, r, raft.Follower, 2, h, c.want.Commit)
		c.want.Hard, c.want.Reset = h, true
		if got := plain(r.Take()); !reflect.DeepEqual(got, plain(c.want)) {
			t.Fatalf("%s: taken %s\nwant %s", c.what, brief(got), brief(c.want))
		}
		if r.Log().First() != c.snap {
			t.Fatalf("%s: the snapshot is %s", c.what, brief(r.Log().First()))
		}
		logged(t, r, c.log...)
	}
}

// Entries are gathered in place of those from the first one's index on; a snapshot leaves none of them.
func TestGathered(t *testing.T) {
	r := follower(t)
	r.Receive(appends(1, 0, 5, 6, 4, 0, none(4, 7), none(4, 8), none(4, 9)))
	r.Receive(appends(1, 0, 5, 9, 4, 0))
	r.Receive(appends(1, 0, 5, 7, 4, 0, none(5, 8)))
	h := api.Hard{Term: 5, Vote: 2}
	taken(t, r, raft.Ready{Hard: h, Reset: true, Commit: 3, Entries: []api.Entry{none(4, 7), none(5, 8)}, Letters: []api.Letter{appended(0, 1, 5, 9, true), appended(0, 1, 5, 9, true), appended(0, 1, 5, 8, true)}})
	r.Receive(appends(1, 0, 5, 8, 5, 0, none(5, 9)))
	r.Receive(appends(1, 0, 6, 5, 2, 0, none(5, 6)))
	r.Receive(appends(1, 0, 6, 6, 5, 0, none(6, 7)))
	h = api.Hard{Term: 6, Vote: -1}
	taken(t, r, raft.Ready{Hard: h, Reset: true, Commit: 3, Entries: []api.Entry{none(5, 6), none(6, 7)}, Letters: []api.Letter{appended(0, 1, 5, 9, true), appended(0, 1, 6, 6, true), appended(0, 1, 6, 7, true)}})
	r.Receive(appends(1, 0, 6, 7, 6, 0, none(6, 8)))
	r.Receive(installs(1, 0, 6, 7, 6, 7, "s"))
	r.Receive(appends(1, 0, 6, 8, 6, 0, none(6, 9)))
	taken(t, r, raft.Ready{Hard: h, Reset: true, Install: true, Commit: 7, Entries: []api.Entry{none(6, 9)}, Letters: []api.Letter{appended(0, 1, 6, 8, true), appended(0, 1, 6, 7, true), appended(0, 1, 6, 9, true)}})
	logged(t, r, none(6, 8), none(6, 9))
	taken(t, r, raft.Ready{Hard: h, Commit: 7})
}

func TestPropose(t *testing.T) {
	r := fresh(t, 7)
	for _, make := range []func(){func() {}, r.Timeout} { // a follower, a candidate
		make()
		r.Take()
		if i, e := r.Propose("a"); i != 0 || e != api.ErrLeader {
			t.Fatal(i, int(e))
		}
		_, _, h, _ := r.Status()
		taken(t, r, raft.Ready{Hard: h})
		logged(t, r)
	}
	leads(t, r, 0)
	if i, e := r.Propose("a"); i != 2 || e != api.OK {
		t.Fatal(i, int(e))
	}
	l := []api.Entry{none(2, 1), command(2, 2, "a")}
	taken(t, r, raft.Ready{Hard: api.Hard{Term: 2}, Entries: l[1:], Letters: []api.Letter{appends(0, 1, 2, 0, 0, 0, l...), appends(0, 2, 2, 0, 0, 0, l...)}})
	if i, e := r.Propose(strings.Repeat("x", 32769)); i != 0 || e != api.ErrArg {
		t.Fatal(i, int(e))
	}
	taken(t, r, raft.Ready{Hard: api.Hard{Term: 2}})
	logged(t, r, l...)
	if i, e := r.Propose(strings.Repeat("x", 32768)); i != 3 || e != api.OK {
		t.Fatal(i, int(e))
	}
	if i, e := r.Propose(""); i != 4 || e != api.OK {
		t.Fatal(i, int(e))
	}
}

func TestBeat(t *testing.T) {
	r := made(t, 3, api.Hard{Vote: -1}, api.Snapshot{Config: 0b1001010})
	r.Beat()
	taken(t, r, raft.Ready{Hard: api.Hard{Vote: -1}})
	r.Timeout()
	r.Take()
	r.Beat()
	taken(t, r, raft.Ready{Hard: api.Hard{Term: 1, Vote: 3}})
	r.Receive(votes(1, 3, 1, true))
	r.Take()
	r.Beat()
	one := none(1, 1)
	taken(t, r, raft.Ready{Hard: api.Hard{Term: 1, Vote: 3}, Letters: []api.Letter{appends(3, 1, 1, 0, 0, 0, one), appends(3, 6, 1, 0, 0, 0, one)}})
}

// A leader begins with all next behind the last entry, and no match.
func TestFirstLetters(t *testing.T) {
	r := made(t, 0, api.Hard{Term: 2, Vote: -1}, api.Snapshot{Index: 4, Term: 1, Config: 7}, none(1, 5), none(2, 6))
	r.Timeout()
	r.Take()
	r.Receive(votes(1, 0, 3, true))
	one := none(3, 7)
	taken(t, r, raft.Ready{Hard: api.Hard{Term: 3}, Commit: 4, Entries: []api.Entry{one}, Letters: []api.Letter{appends(0, 1, 3, 6, 2, 4, one), appends(0, 2, 3, 6, 2, 4, one)}})
	r.Receive(appended(2, 0, 3, 0, false)) // its match is 0
	letters(t, r, installed(r, 2))
	r.Receive(appended(2, 0, 3, 7, true))
	r.Receive(asks(1, 0, 4, 0, 0))
	r.Take()
	r.Timeout()
	r.Take()
	r.Receive(votes(1, 0, 5, true)) // it leads anew: next is anew, and match 0
	two := none(5, 8)
	letters(t, r, appends(0, 1, 5, 7, 3, 7, two), appends(0, 2, 5, 7, 3, 7, two))
	r.Receive(appended(2, 0, 5, 4, false))
	letters(t, r, appends(0, 2, 5, 4, 1, 7, none(1, 5), none(2, 6), one, two))
	status(t, r, raft.Leader, 0, api.Hard{Term: 5}, 7)
}

// installed: the letter that carries the node's snapshot to another one.
func installed(r *raft.Raft, to int) api.Letter {
	_, _, h, _ := r.Status()
	s := r.Log().First()
	return installs(0, to, h.Term, s.Index, s.Term, s.Config, s.Data)
}

// leader: node 0 of three leads in term 3, behind a snapshot at 4, with entries 5 to 20, of which 5 is of term 2.
func leader(t *testing.T) *raft.Raft {
	t.Helper()
	r := leads(t, made(t, 0, api.Hard{Term: 2, Vote: -1}, api.Snapshot{Index: 4, Term: 1, Config: 7, Data: "s"}, none(2, 5)), 0)
	for i := uint64(7); i <= 20; i++ {
		if at, e := r.Propose("x"); at != i || e != api.OK {
			t.Fatal(at, int(e))
		}
	}
	r.Take()
	return r
}

// span: the leader's entries from one index to another.
func span(from, to uint64) []api.Entry {
	var l []api.Entry
	for i := from; i <= to; i++ {
		switch i {
		case 5:
			l = append(l, none(2, 5))
		case 6:
			l = append(l, none(3, 6))
		default:
			l = append(l, command(3, i, "x"))
		}
	}
	return l
}

func TestWhatIsWritten(t *testing.T) {
	all := span(5, 20)
	cases := []struct {
		what  string
		index uint64 // of an answer that isn't Ok
		want  func(r *raft.Raft) api.Letter
	}{
		{"ahead of the snapshot", 0, func(r *raft.Raft) api.Letter { return installed(r, 1) }},
		{"one ahead of the snapshot", 3, func(r *raft.Raft) api.Letter { return installed(r, 1) }},
		{"from the snapshot on", 4, func(r *raft.Raft) api.Letter { return appends(0, 1, 3, 4, 1, 4, all[:8]...) }},
		{"in between", 7, func(r *raft.Raft) api.Letter { return appends(0, 1, 3, 7, 3, 4, all[3:11]...) }},
		{"the last eight", 12, func(r *raft.Raft) api.Letter { return appends(0, 1, 3, 12, 3, 4, all[8:]...) }},
		{"the last seven", 13, func(r *raft.Raft) api.Letter { return appends(0, 1, 3, 13, 3, 4, all[9:]...) }},
		{"the last one", 19, func(r *raft.Raft) api.Letter { return appends(0, 1, 3, 19, 3, 4, all[15]) }},
		{"none", 20, func(r *raft.Raft) api.Letter { return appends(0, 1, 3, 20, 3, 4) }},
		{"an index that isn't there", 21, func(r *raft.Raft) api.Letter { return appends(0, 1, 3, 20, 3, 4) }},
		{"the greatest index", 1 << 62, func(r *raft.Raft) api.Letter { return appends(0, 1, 3, 20, 3, 4) }},
	}
	for _, c := range cases {
		r := leader(t)
		r.Receive(appended(1, 0, 3, c.index, false))
		got := plain(r.Take())
		if want := plain(raft.Ready{Hard: api.Hard{Term: 3}, Commit: 4, Letters: []api.Letter{c.want(r)}}); !reflect.DeepEqual(got, want) {
			t.Fatalf("%s: taken %s\nwant %s", c.what, brief(got), brief(want))
		}
		r.Beat()
		letters(t, r, c.want(r), appends(0, 2, 3, 5, 2, 4, all[1:9]...))
	}
}

func TestAppended(t *testing.T) {
	all := span(5, 20)
	r := leader(t)
	for _, x := range []api.Letter{appended(1, 0, 2, 20, true), appended(1, 0, 2, 5, false), appended(1, 0, 3, 21, true), appended(1, 0, 3, 1<<62, true)} {
		r.Receive(x) // of another term, or of what there isn't
		taken(t, r, raft.Ready{Hard: api.Hard{Term: 3}, Commit: 4})
	}
	r.Receive(appended(1, 0, 3, 5, true)) // next was 6: so it stays; 5 isn't of the term
	letters(t, r, appends(0, 1, 3, 5, 2, 4, all[1:9]...))
	status(t, r, raft.Leader, 0, api.Hard{Term: 3}, 4)
	r.Receive(appended(1, 0, 3, 13, true))
	status(t, r, raft.Leader, 0, api.Hard{Term: 3}, 13)
	letters(t, r, appends(0, 1, 3, 13, 3, 13, all[9:]...))
	r.Receive(appended(1, 0, 3, 7, true)) // late: what it has stays
	letters(t, r, appends(0, 1, 3, 13, 3, 13, all[9:]...))
	r.Receive(appended(1, 0, 3, 7, false)) // late, too
	letters(t, r, appends(0, 1, 3, 13, 3, 13, all[9:]...))
	r.Receive(appended(1, 0, 3, 20, true))
	taken(t, r, raft.Ready{Hard: api.Hard{Term: 3}, Commit: 20}) // there is no more for it
	r.Receive(appended(1, 0, 3, 0, false))
	letters(t, r, appends(0, 1, 3, 20, 3, 20))
	r.Receive(appended(2, 0, 3, 3, true)) // below what it is written next: next is one behind its match then
	letters(t, r, installed(r, 2))
	r.Receive(appended(2, 0, 3, 20, true))
	taken(t, r, raft.Ready{Hard: api.Hard{Term: 3}, Commit: 20})
}

// An answer by a node that isn't a member counts for nothing, and nothing more is written to it, but behind one that isn't Ok.
func TestAppendedOfNoMember(t *testing.T) {
	r := leader(t)
	for from := 3; from < 7; from++ {
		r.Receive(appended(from, 0, 3, 10, true))
		taken(t, r, raft.Ready{Hard: api.Hard{Term: 3}, Commit: 4})
		r.Receive(appended(from, 0, 3, 12, false))
		letters(t, r, appends(0, from, 3, 12, 3, 4, span(13, 20)...))
	}
	f := fresh(t, 7)
	f.Receive(appended(1, 0, 0, 0, true)) // to one that doesn't lead
	f.Receive(appended(1, 0, 0, 0, false))
	taken(t, f, raft.Ready{Hard: api.Hard{Vote: -1}})
	f.Receive(appended(1, 0, 7, 0, false))
	taken(t, f, raft.Ready{Hard: api.Hard{Term: 7, Vote: -1}})
}

// Entries of an elder term are agreed upon only by one of the leader's own.
func TestOnlyItsOwnTerm(t *testing.T) {
	r := leads(t, made(t, 0, api.Hard{Term: 2, Vote: -1}, api.Snapshot{Config: 31}, none(1, 1), none(2, 2)), 0)
	l := []api.Entry{none(1, 1), none(2, 2), none(3, 3)}
	for from := 1; from < 5; from++ {
		r.Receive(appended(from, 0, 3, 2, true))
		status(t, r, raft.Leader, 0, api.Hard{Term: 3}, 0)
		letters(t, r, appends(0, from, 3, 2, 2, 0, l[2]))
	}
	r.Receive(appended(1, 0, 3, 3, true))
	status(t, r, raft.Leader, 0, api.Hard{Term: 3}, 0)
	r.Receive(appended(4, 0, 3, 3, true))
	status(t, r, raft.Leader, 0, api.Hard{Term: 3}, 3)
	taken(t, r, raft.Ready{Hard: api.Hard{Term: 3}, Commit: 3})
}

func TestChangeErrors(t *testing.T) {
	change := func(r *raft.Raft, add bool, id int, want api.Errno) {
		t.Helper()
		if i, e := r.Change(add, id); i != 0 || e != want {
			t.Fatal(i, int(e), "want", int(want))
		}
		if y := r.Take(); len(y.Entries) > 0 || len(y.Letters) > 0 || y.Install || y.Reset {
			t.Fatal(brief(y))
		}
	}
	r := fresh(t, 7)
	change(r, true, -1, api.ErrLeader)
	r.Timeout()
	r.Take()
	change(r, true, 3, api.ErrLeader)
	leads(t, r, 0)
	change(r, true, -1, api.ErrBusy) // none of its entries is agreed upon
	change(r, true, 0, api.ErrBusy)
	r.Receive(appended(1, 0, 2, 1, true))
	r.Take()
	for _, id := range []int{-1, 7, math.MaxInt, math.MinInt} {
		change(r, true, id, api.ErrArg)
		change(r, false, id, api.ErrArg)
	}
	change(r, true, 2, api.ErrMember)
	change(r, false, 3, api.ErrMember)
	logged(t, r, none(2, 1))
	if i, e := r.Change(true, 3); i != 2 || e != api.OK {
		t.Fatal(i, int(e))
	}
	r.Take()
	change(r, true, 4, api.ErrBusy)
	change(r, true, 3, api.ErrBusy)
	r.Receive(appended(1, 0, 2, 2, true))
	r.Receive(appended(2, 0, 2, 2, true))
	r.Take()
	change(r, true, 3, api.ErrMember)
	logged(t, r, none(2, 1), config(2, 2, 15))
	alone := fresh(t, 1)
	alone.Timeout()
	alone.Take()
	change(alone, false, 0, api.ErrMember)
}

// A leader whose log has an elder one's entry agreed upon, but none of its own, is too early.
func TestChangeTooEarly(t *testing.T) {
	r := made(t, 0, api.Hard{Term: 2, Vote: -1}, api.Snapshot{Config: 7}, none(1, 1), none(2, 2))
	r.Receive(appends(1, 0, 2, 2, 2, 2))
	leads(t, r, 0)
	status(t, r, raft.Leader, 0, api.Hard{Term: 3}, 2)
	if i, e := r.Change(true, 3); i != 0 || e != api.ErrBusy {
		t.Fatal(i, int(e))
	}
	r.Receive(appended(2, 0, 3, 3, true))
	if i, e := r.Change(true, 3); i != 4 || e != api.OK {
		t.Fatal(i, int(e))
	}
}

// One that is added is written to from there on, whatever it told ahead of that.
func TestChangeAdds(t *testing.T) {
	r := leader(t)
	r.Receive(appended(1, 0, 3, 20, true))
	r.Receive(appended(5, 0, 3, 20, true)) // no member yet
	r.Receive(appended(2, 0, 3, 20, true))
	r.Take()
	if i, e := r.Change(true, 5); i != 21 || e != api.OK {
		t.Fatal(i, int(e))
	}
	c := config(3, 21, 39)
	taken(t, r, raft.Ready{Hard: api.Hard{Term: 3}, Commit: 20, Entries: []api.Entry{c}, Letters: []api.Letter{appends(0, 1, 3, 20, 3, 20, c), appends(0, 2, 3, 20, 3, 20, c), appends(0, 5, 3, 20, 3, 20, c)}})
	r.Receive(appended(5, 0, 3, 6, false)) // its match was forgotten: so far back it may go
	letters(t, r, appends(0, 5, 3, 6, 3, 20, span(7, 14)...))
	r.Receive(appended(1, 0, 3, 21, true))
	status(t, r, raft.Leader, 0, api.Hard{Term: 3}, 20) // two of four are no majority
	r.Receive(appended(5, 0, 3, 21, true))
	status(t, r, raft.Leader, 0, api.Hard{Term: 3}, 21)
}

// One that is added again is written to anew.
func TestChangeAddsAgain(t *testing.T) {
	r := leader(t)
	r.Receive(appended(1, 0, 3, 20, true))
	r.Receive(appended(2, 0, 3, 18, true))
	if i, e := r.Change(false, 2); i != 21 || e != api.OK {
		t.Fatal(i, int(e))
	}
	r.Receive(appended(1, 0, 3, 21, true))
	status(t, r, raft.Leader, 0, api.Hard{Term: 3}, 21)
	r.Take()
	r.Beat()
	letters(t, r, appends(0, 1, 3, 21, 3, 21))
	if i, e := r.Change(true, 2); i != 22 || e != api.OK {
		t.Fatal(i, int(e))
	}
	c := config(3, 22, 7)
	letters(t, r, appends(0, 1, 3, 21, 3, 21, c), appends(0, 2, 3, 21, 3, 21, c))
	r.Receive(appended(2, 0, 3, 0, false))
	letters(t, r, installed(r, 2))
}

// A leader that goes leads till that is agreed upon; it needs the others for it, tells them, and stands no more.
func TestChangeTakesTheLeaderOut(t *testing.T) {
	r := leads(t, fresh(t, 7), 0)
	r.Receive(appended(1, 0, 1, 1, true))
	r.Take()
	if i, e := r.Change(false, 0); i != 2 || e != api.OK {
		t.Fatal(i, int(e))
	}
	c := config(1, 2, 6)
	letters(t, r, appends(0, 1, 1, 1, 1, 1, c), appends(0, 2, 1, 0, 0, 1, none(1, 1), c))
	if i, e := r.Propose("a"); i != 3 || e != api.OK {
		t.Fatal(i, int(e))
	}
	r.Take()
	r.Receive(appended(1, 0, 1, 3, true))
	status(t, r, raft.Leader, 0, api.Hard{Term: 1}, 1)
	taken(t, r, raft.Ready{Hard: api.Hard{Term: 1}, Commit: 1})
	r.Receive(appended(2, 0, 1, 2, true)) // nothing more is written to it than what tells of the commit
	status(t, r, raft.Follower, -1, api.Hard{Term: 1}, 2)
	taken(t, r, raft.Ready{Hard: api.Hard{Term: 1}, Commit: 2, Letters: []api.Letter{appends(0, 1, 1, 3, 1, 2), appends(0, 2, 1, 2, 1, 2, command(1, 3, "a"))}})
	r.Timeout()
	r.Beat()
	r.Receive(appended(2, 0, 1, 3, true))
	taken(t, r, raft.Ready{Hard: api.Hard{Term: 1}, Commit: 2})
	if i, e := r.Propose("b"); i != 0 || e != api.ErrLeader {
		t.Fatal(i, int(e))
	}
}

// What was agreed upon ahead of its going doesn't end its leading.
func TestLeaderThatGoesGoesOn(t *testing.T) {
	r := leads(t, fresh(t, 7), 0)
	r.Receive(appended(1, 0, 1, 1, true))
	r.Propose("a")
	r.Change(false, 0)
	r.Take()
	r.Receive(appended(1, 0, 1, 3, true))
	r.Receive(appended(2, 0, 1, 2, true)) // entry 2 is agreed upon by 1 and 2
	status(t, r, raft.Leader, 0, api.Hard{Term: 1}, 2)
	r.Receive(appended(2, 0, 1, 3, true))
	status(t, r, raft.Follower, -1, api.Hard{Term: 1}, 3)
}

// Two of three: one is taken out, and what the other two have is agreed upon at once.
func TestChangeAdvances(t *testing.T) {
	r := leads(t, fresh(t, 3), 0)
	r.Receive(appended(1, 0, 1, 1, true))
	if i, e := r.Change(false, 1); i != 2 || e != api.OK {
		t.Fatal(i, int(e))
	}
	c := config(1, 2, 1)
	taken(t, r, raft.Ready{Hard: api.Hard{Term: 1}, Commit: 2, Entries: []api.Entry{c}})
	status(t, r, raft.Leader, 0, api.Hard{Term: 1}, 2)
}

func TestCompact(t *testing.T) {
	r := leader(t)
	compact := func(i uint64, want api.Errno) {
		t.Helper()
		if e := r.Compact(i, "c"); e != want {
			t.Fatal(i, int(e), "want", int(want))
		}
	}
	for _, i := range []uint64{5, 20, 21, greatest} { // above the commit, in the log or not
		compact(i, api.ErrArg)
	}
	for _, i := range []uint64{0, 3, 4} { // no entry is there
		compact(i, api.ErrGone)
	}
	if s := r.Log().First(); s != (api.Snapshot{Index: 4, Term: 1, Config: 7, Data: "s"}) {
		t.Fatal(s)
	}
	r.Receive(appended(1, 0, 3, 10, true))
	r.Take()
	compact(11, api.ErrArg)
	compact(10, api.OK)
	compact(10, api.ErrGone)
	if s := r.Log().First(); s != (api.Snapshot{Index: 10, Term: 3, Config: 7, Data: "c"}) {
		t.Fatal(s)
	}
	logged(t, r, span(11, 20)...)
	status(t, r, raft.Leader, 0, api.Hard{Term: 3}, 10)
	taken(t, r, raft.Ready{Hard: api.Hard{Term: 3}, Commit: 10})
	r.Beat() // node 2, whose next is 6, gets the snapshot
	letters(t, r, appends(0, 1, 3, 10, 3, 10, span(11, 18)...), installs(0, 2, 3, 10, 3, 7, "c"))
}

// Gathered entries and a Compact: what must last stays gathered.
func TestCompactOfWhatIsGathered(t *testing.T) {
	r := fresh(t, 1)
	r.Timeout()
	r.Propose("a")
	if e := r.Compact(1, "c"); e != api.OK {
		t.Fatal(int(e))
	}
	r.Propose("b")
	taken(t, r, raft.Ready{Hard: api.Hard{Term: 1}, Reset: true, Commit: 3, Entries: []api.Entry{none(1, 1), command(1, 2, "a"), command(1, 3, "b")}})
	logged(t, r, command(1, 2, "a"), command(1, 3, "b"))
}

// Indexes as great as may be don't wrap.
func TestGreatIndexes(t *testing.T) {
	r := leads(t, made(t, 0, api.Hard{Vote: -1}, api.Snapshot{Index: 1 << 63, Config: 1}), 0)
	if i, e := r.Propose("a"); i != 1<<63+2 || e != api.OK {
		t.Fatal(i, int(e))
	}
	status(t, r, raft.Leader, 0, api.Hard{Term: 1}, 1<<63+2)
	f := made(t, 0, api.Hard{Vote: -1}, api.Snapshot{Index: 1 << 62, Config: 3})
	one, two := none(1, 1<<62+1), command(1, 1<<62+2, "a")
	f.Receive(appends(1, 0, 1, 1<<62, 0, greatest, one, two))
	taken(t, f, raft.Ready{Hard: api.Hard{Term: 1, Vote: -1}, Reset: true, Commit: 1<<62 + 2, Entries: []api.Entry{one, two}, Letters: []api.Letter{appended(0, 1, 1, 1<<62+2, true)}})
}

// What is handed in isn't changed, and not kept; what is answered is new memory.
func TestMemory(t *testing.T) {
	r := follower(t)
	room := []api.Entry{command(5, 7, "a"), command(5, 8, "b"), command(5, 9, "behind")}
	x := appends(1, 0, 5, 6, 4, 0, room[:2]...)
	r.Receive(x)
	r.Receive(appends(1, 0, 5, 8, 5, 0, command(5, 9, "c")))
	if room[0] != command(5, 7, "a") || room[1] != command(5, 8, "b") || room[2] != command(5, 9, "behind") {
		t.Fatal(room)
	}
	room[0], room[1] = api.Entry{}, api.Entry{}
	want := []api.Entry{none(1, 3), none(2, 4), none(2, 5), none(4, 6), command(5, 7, "a"), command(5, 8, "b"), command(5, 9, "c")}
	logged(t, r, want...)
	y := r.Take()
	if !slices.Equal(y.Entries, want[4:]) {
		t.Fatal(y.Entries)
	}
	clear(y.Entries)
	clear(y.Letters)
	logged(t, r, want...)
	leads(t, r, 0)
	r.Beat()
	y = r.Take()
	want = append(want, none(6, 10))
	for i := range y.Letters { // no two of them share entries
		if !slices.Equal(y.Letters[i].Entries, want[7:]) {
			t.Fatal(brief(y))
		}
		clear(y.Letters[i].Entries[:cap(y.Letters[i].Entries)])
	}
	logged(t, r, want...)
	r.Propose("p")
	y = r.Take()
	clear(y.Entries[:cap(y.Entries)])
	clear(y.Letters[:cap(y.Letters)])
	logged(t, r, append(want, command(6, 11, "p"))...)
	r.Propose("q")
	r.Propose("r")
	if z := r.Take(); !slices.Equal(z.Entries, []api.Entry{command(6, 12, "q"), command(6, 13, "r")}) || y.Entries[0] != (api.Entry{}) {
		t.Fatal(z, y.Entries)
	}
}
