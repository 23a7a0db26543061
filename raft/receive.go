package raft

import (
	"slices"

	"tontine/api"
	"tontine/quorum"
)

// mostIndex is the greatest index of a letter that is heard: so no sum that is made of it can wrap.
const mostIndex uint64 = 1 << 62

// Receive: a letter of another node.
func (r *Raft) Receive(x api.Letter) {
	if r == nil || !r.hears(x) {
		return
	}
	if x.Term > r.hard.Term {
		r.follow(x.Term)
	}
	switch x.Kind {
	case api.LetterAsk:
		r.asked(x)
	case api.LetterVote:
		r.voted(x)
	case api.LetterAppend, api.LetterInstall:
		r.written(x)
	case api.LetterAppended:
		r.answered(x)
	}
}

// hears tells whether a letter is one node's for this one.
func (r *Raft) hears(x api.Letter) bool {
	if x.Kind < api.LetterAsk || x.Kind > api.LetterInstall || x.Index > mostIndex {
		return false
	}
	return x.To == r.id && x.From != r.id && isNode(x.From)
}

// asked: for a vote.
func (r *Raft) asked(x api.Letter) {
	ok := r.grants(x)
	if ok {
		r.hard.Vote, r.reset = x.From, true
	}
	r.send(api.Letter{Kind: api.LetterVote, To: x.From, Ok: ok})
}

// grants tells whether the node votes for one that asks: for one in a term, whose log isn't elder than its own.
func (r *Raft) grants(x api.Letter) bool {
	if x.Term != r.hard.Term || r.role != Follower || r.hard.Vote != nobody && r.hard.Vote != x.From {
		return false
	}
	index, term := r.log.Last()
	return x.Prev > term || x.Prev == term && x.Index >= index
}

// voted: another one votes, or doesn't.
func (r *Raft) voted(x api.Letter) {
	if r.role != Candidate || x.Term != r.hard.Term || !x.Ok {
		return
	}
	r.votes |= only(x.From)
	r.lead()
}

// written: entries or a snapshot came from one that leads, or led.
func (r *Raft) written(x api.Letter) {
	if x.Term < r.hard.Term { // who led hears of the term that came since
		r.appended(x.From, 0, false)
		return
	}
	if r.role == Leader {
		return
	}
	r.follow(x.Term)
	r.leader, r.reset = x.From, true
	if x.Kind == api.LetterAppend {
		r.merge(x)
	} else {
		r.lay(x)
	}
}

// merge: the leader's entries lie in the log.
func (r *Raft) merge(x api.Letter) {
	if slices.ContainsFunc(x.Entries, func(y api.Entry) bool { return y.Term > x.Term }) {
		return
	}
	l, ok := r.log.Merge(x.Index, x.Prev, x.Entries)
	if !ok {
		r.appended(x.From, r.before(x.Index), false)
		return
	}
	r.keep(l)
	h := x.Index + uint64(len(x.Entries)) // what the log has behind that needn't be the leader's
	r.commit = max(r.commit, min(x.Commit, h))
	r.appended(x.From, h, true)
}

// before: up to where the log may be the leader's, when it isn't at i. What is agreed upon is.
func (r *Raft) before(i uint64) uint64 {
	if i == 0 || i-1 <= r.commit {
		return r.commit
	}
	last, _ := r.log.Last()
	return min(i-1, last)
}

// lay: the leader's snapshot stands for all that it tells of, unless that is agreed upon here.
func (r *Raft) lay(x api.Letter) {
	if x.Index > r.commit {
		s := api.Snapshot{Index: x.Index, Term: x.Prev, Config: x.Commit, Data: x.Data}
		if x.Prev > x.Term || r.log.Install(s) != api.OK {
			return
		}
		r.commit = x.Index
		r.install, r.entries = true, nil // all is laid anew, what was gathered too
	}
	r.appended(x.From, x.Index, true)
}

// appended: the leader hears up to where the log is its own, or from where on it should try.
func (r *Raft) appended(to int, index uint64, ok bool) {
	r.send(api.Letter{Kind: api.LetterAppended, To: to, Index: index, Ok: ok})
}

// answered: another one tells what it has, or hasn't.
func (r *Raft) answered(x api.Letter) {
	if r.role != Leader || x.Term != r.hard.Term {
		return
	}
	last, _ := r.log.Last()
	if !x.Ok {
		r.next[x.From] = max(r.match[x.From], min(x.Index, last)) + 1
		r.write(x.From)
		return
	}
	if x.Index > last {
		return
	}
	r.match[x.From] = max(r.match[x.From], x.Index)
	r.next[x.From] = max(r.next[x.From], r.match[x.From]+1)
	r.advance()
	if r.role == Leader && r.next[x.From] <= last && quorum.Has(r.members(), x.From) { // there is more for it
		r.next[x.From] = r.match[x.From] + 1
		r.write(x.From)
	}
}
