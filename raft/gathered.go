package raft

import "tontine/api"

// gathered is what has come up since it was taken last.
type gathered struct {
	entries []api.Entry
	letters []api.Letter
	install bool
	reset   bool
}

// keep: entries that must last, in place of those that were gathered from the first one's index on.
func (g *gathered) keep(l []api.Entry) {
	if len(l) == 0 {
		return
	}
	n := len(g.entries)
	for n > 0 && g.entries[n-1].Index >= l[0].Index {
		n--
	}
	g.entries = append(g.entries[:n], l...)
}

// taken: what was gathered. Nothing is gathered then.
func (g *gathered) taken() Ready {
	y := Ready{Entries: g.entries, Install: g.install, Letters: g.letters, Reset: g.reset}
	*g = gathered{}
	return y
}
