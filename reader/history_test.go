package reader

import (
	"slices"
	"sort"
	"testing"

	"oubliette/api"
	"oubliette/source"
)

// telling is what the chapter says of a reader and its source, told apart from the program: from the events that were done, and which of them it read, alone.
type telling struct {
	done []api.Event
	gens []int       // of each: which key of its subject sealed it (0: a Gone)
	seen []api.Event // what the reader read and could open, one by one
	read int
	lost int
}

func (w *telling) gones(subject string) int {
	n := 0
	for _, e := range w.done {
		if e == gone(subject) {
			n++
		}
	}
	return n
}

// did: an event was done; its key is the one behind all that were forgotten.
func (w *telling) did(e api.Event) {
	gen := 0
	if e.Kind != api.Gone {
		gen = w.gones(e.Subject) + 1
	}
	w.done, w.gens = append(w.done, e), append(w.gens, gen)
}

// next: it reads one more: what has a key that was forgotten since is LOST.
func (w *telling) next() {
	e, gen := w.done[w.read], w.gens[w.read]
	w.read++
	if gen > 0 && gen <= w.gones(e.Subject) {
		w.lost++
		return
	}
	w.seen = append(w.seen, e)
}

// cells: of each row that was Put the last Put, unless its Del or its Gone was read behind it.
func (w *telling) cells() []api.Cell {
	var out []api.Cell
	for i, e := range w.seen {
		behind := w.seen[i+1:]
		again := slices.ContainsFunc(behind, func(o api.Event) bool {
			return o.Kind == api.Put && o.Table == e.Table && o.Row == e.Row
		})
		if e.Kind == api.Put && !again && !slices.Contains(behind, del(e.Subject, e.Table, e.Row)) && !slices.Contains(behind, gone(e.Subject)) {
			out = append(out, cell(e.Table, e.Row, e.Subject, e.Value))
		}
	}
	sort.Slice(out, func(i, j int) bool {
		return out[i].Table < out[j].Table || out[i].Table == out[j].Table && out[i].Row < out[j].Row
	})
	return out
}

// history is a source, a reader of it, and what is told of both.
type history struct {
	s *source.Source
	r *Reader
	w telling
}

func newHistory(t *testing.T) *history {
	s := mustSource(t)
	return &history{s: s, r: mustNew(t, s.Vault())}
}

func (h *history) do(e api.Event) {
	if _, err := h.s.Do(e); err == nil {
		h.w.did(e)
	}
}

// readOn reads the record of a number, from 1 on, if there is one.
func (h *history) readOn(t *testing.T, seq int) {
	t.Helper()
	l := h.s.Feed()
	if seq > len(l) {
		return
	}
	want := api.OK
	switch {
	case seq == h.w.read+1:
		h.w.next()
	case seq > h.w.read:
		want = api.ErrOrder
	}
	wantErrno(t, "Read", h.r.Read(l[seq-1]), want)
}

// lie reads the next record with another Body, which is noticed. What is forgotten is left out: there it is noticed only in the record behind it.
func (h *history) lie(t *testing.T) {
	t.Helper()
	l := h.s.Feed()
	if h.w.read == len(l) {
		return
	}
	e, gen := h.w.done[h.w.read], h.w.gens[h.w.read]
	if gen > 0 && gen <= h.w.gones(e.Subject) {
		return
	}
	x := l[h.w.read]
	x.Body = "x" + x.Body[1:]
	if x != l[h.w.read] {
		wantNothing(t, h.r, x, api.ErrSpoilt)
	}
}

func (h *history) reload(t *testing.T) {
	t.Helper()
	r, err := Load(h.s.Vault(), h.r.Save())
	if err != nil {
		t.Fatalf("Load(%+v): %v", h.r.Save(), err)
	}
	h.r = r
}

// check holds what the reader has against what is told, and, if it has read all, against the source.
func (h *history) check(t *testing.T) {
	t.Helper()
	mark, l := none, h.s.Feed()
	if h.w.read > 0 {
		mark = markApart(l[h.w.read-1])
	}
	wantAt(t, h.r, h.w.read, mark, h.w.lost)
	wantCells(t, h.r, h.w.cells()...)
	if h.w.read == len(l) {
		wantCells(t, h.r, h.s.Cells()...)
	}
}

// TestShortHistories (9.1, 9.2): each history of five steps of a few, and then all that is left is read.
func TestShortHistories(t *testing.T) {
	events := []api.Event{put("ann", "t", "r", "1"), put("bob", "t", "r", "2"), del("ann", "t", "r"), gone("ann"), gone("bob")}
	steps := len(events) + 2
	for code := range steps * steps * steps * steps * steps {
		h := newHistory(t)
		for range 5 {
			switch k := code % steps; {
			case k < len(events):
				h.do(events[k])
			case k == len(events):
				h.readOn(t, h.w.read+1)
			default:
				h.lie(t)
				h.reload(t)
			}
			code /= steps
			h.check(t)
		}
		for range h.s.Feed()[h.w.read:] {
			h.readOn(t, h.w.read+1)
		}
		h.check(t)
		if t.Failed() {
			return
		}
	}
}

// TestDrawnHistories (9.1, 9.2): long ones, up to a full feed, read at any pace, some of it again or ahead of its turn.
func TestDrawnHistories(t *testing.T) {
	d := draw(7)
	for range 60 {
		h, pace := newHistory(t), 1+d.below(5)
		for range 20 + d.below(500) {
			switch d.below(4 + pace) {
			case 0:
				h.readOn(t, 1+d.below(len(h.s.Feed())+1))
			case 1:
				h.lie(t)
			case 2:
				h.reload(t)
			case 3:
				for range d.below(4) {
					h.readOn(t, h.w.read+1)
				}
			default:
				h.do(drawnEvent(&d))
			}
			h.check(t)
		}
		for range h.s.Feed()[h.w.read:] {
			h.readOn(t, h.w.read+1)
		}
		h.check(t)
		if t.Failed() {
			return
		}
	}
}
