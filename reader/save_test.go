package reader

import (
	"fmt"
	"math"
	"slices"
	"strings"
	"testing"

	"oubliette/api"
	"oubliette/vault"
)

func wantSave(t *testing.T, r *Reader, want Save) {
	t.Helper()
	if s := r.Save(); s.Seq != want.Seq || s.Mark != want.Mark || s.Lost != want.Lost || !slices.Equal(s.Rows, want.Rows) {
		t.Errorf("Save: %+v, want %+v", s, want)
	}
}

// mustLoad: a reader that has just that.
func mustLoad(t *testing.T, v *vault.Vault, s Save) *Reader {
	t.Helper()
	before := held(v)
	r, err := Load(v, s)
	if r == nil || err != nil {
		t.Fatalf("Load(%.300q): %v, %v", fmt.Sprint(s), r, err)
	}
	wantAt(t, r, s.Seq, s.Mark, s.Lost)
	wantCells(t, r, s.Rows...)
	wantSave(t, r, s)
	if held(v) != before {
		t.Errorf("Load(%.300q) changes the vault", fmt.Sprint(s))
	}
	return r
}

// wantNoLoad: that error alone (P2).
func wantNoLoad(t *testing.T, v *vault.Vault, s Save, want api.Errno) {
	t.Helper()
	r, err := Load(v, s)
	if r != nil {
		t.Errorf("Load(%.300q): a reader beside %v", fmt.Sprint(s), err)
	}
	wantErrno(t, fmt.Sprintf("Load(%+v)", s), err, want)
}

// lateReader has read some's first six records, of which one is LOST.
func lateReader(t *testing.T) (*vault.Vault, []api.Record, *Reader, Save) {
	t.Helper()
	s := mustSource(t, some()...)
	r := mustNew(t, s.Vault())
	l := s.Feed()
	for i, lost := range []int{0, 0, 1, 0, 0, 0} {
		wantRead(t, r, l[i], lost)
	}
	return s.Vault(), l, r, Save{Seq: 6, Mark: markApart(l[5]), Rows: wantSome()[5], Lost: 1}
}

// TestSave (9.2): of a new reader, of one that has read some, of one that has LOST some.
func TestSave(t *testing.T) {
	s := mustSource(t)
	r := mustNew(t, s.Vault())
	wantSave(t, r, Save{Mark: none})
	for i, e := range some() {
		do(t, s, e)
		wantRead(t, r, s.Feed()[i], 0)
		wantSave(t, r, Save{Seq: i + 1, Mark: markApart(s.Feed()[i]), Rows: wantSome()[i]})
	}
	_, _, late, want := lateReader(t)
	wantSave(t, late, want)
	wantSave(t, late, want)
}

// TestSaveFreshMemory (9.2, P4): what is written into a Save changes nothing, nor does what is read later change it.
func TestSaveFreshMemory(t *testing.T) {
	_, l, r, want := lateReader(t)
	one, two := r.Save(), r.Save()
	for i := range one.Rows {
		one.Rows[i] = cell("x", "x", "x", "x")
	}
	_ = append(r.Save().Rows[:1], cell("x", "x", "x", "x"))
	wantSave(t, r, want)
	wantCells(t, r, want.Rows...)
	wantRead(t, r, l[6], 0)
	if two.Seq != want.Seq || two.Mark != want.Mark || !slices.Equal(two.Rows, want.Rows) {
		t.Errorf("a Save behind another Read: %+v, want %+v", two, want)
	}
}

// TestLoadReadsOn (9.2): who goes on goes on: at each place, the loaded one reads on as the one does that was saved, and neither sees the other one.
func TestLoadReadsOn(t *testing.T) {
	s := mustSource(t, some()...)
	do(t, s, put("eve", "x", "y", "z"), gone("eve"), put("eve", "x", "y", "z"), gone("bob"))
	l := s.Feed()
	for i := range len(l) + 1 {
		a := mustNew(t, s.Vault())
		for _, x := range l[:i] {
			if err := a.Read(x); err != nil {
				t.Fatalf("Read(%+v): %v", x, err)
			}
		}
		saved := a.Save()
		b := mustLoad(t, s.Vault(), saved)
		for _, x := range l {
			lie := x
			lie.Body += "x"
			for _, c := range []api.Record{lie, x} {
				before := all(b)
				one := api.Tell(a.Read(c))
				if all(b) != before {
					t.Errorf("what the saved one reads, the loaded one has")
				}
				if two := api.Tell(b.Read(c)); one != two || all(a) != all(b) {
					t.Errorf("Read(%+v): %v and %s, want %v and %s", c, two, all(b), one, all(a))
				}
			}
		}
		c := mustLoad(t, s.Vault(), saved)
		for _, x := range l[i:] {
			if err := c.Read(x); err != nil {
				t.Errorf("Read(%+v) behind Load: %v", x, err)
			}
		}
		wantAt(t, c, len(l), markApart(l[len(l)-1]), 4)
		wantCells(t, c, s.Cells()...)
	}
}

// TestLoadByAnotherVault (9.2): by a vault that has other keys it has what was saved, and reads by those.
func TestLoadByAnotherVault(t *testing.T) {
	_, l, _, saved := lateReader(t)
	for _, v := range []*vault.Vault{mustVault(t, secret), mustVault(t, "0123456789abcdeF"), {}} {
		r := mustLoad(t, v, saved)
		wantNothing(t, r, l[5], api.OK)
		wantNothing(t, r, l[6], api.ErrMissing)
	}
}

// TestLoadOfNothing (9.2): Seq 0 with Mark None and no Rows, nil or not: a new reader.
func TestLoadOfNothing(t *testing.T) {
	s := mustSource(t, some()...)
	for _, rows := range [][]api.Cell{nil, {}, make([]api.Cell, 3)[:0]} {
		r := mustLoad(t, s.Vault(), Save{Mark: none, Rows: rows})
		wantNothing(t, r, s.Feed()[1], api.ErrOrder)
		wantRead(t, r, s.Feed()[0], 0)
		wantCells(t, r, wantSome()[0]...)
	}
}

// rightSaves may be, though no reader of the vault has them: nothing else is asked of a Save.
func rightSaves() []Save {
	any16, row := strings.Repeat("x", 16), cell("t", "r", "ann", "v")
	return []Save{
		{Seq: 1, Mark: none}, {Seq: 1, Mark: any16}, {Seq: 1, Mark: any16, Lost: 1}, {Seq: 2, Mark: strings.Repeat("\xff", 16), Lost: 1}, {Seq: 1, Mark: strings.Repeat("é", 8)},
		{Seq: 101, Mark: any16, Lost: 101}, {Seq: math.MaxInt, Mark: any16}, {Seq: math.MaxInt, Mark: any16, Lost: math.MaxInt, Rows: []api.Cell{row}},
		{Seq: 1, Mark: any16, Lost: 1, Rows: []api.Cell{row}},
		{Seq: 1, Mark: any16, Rows: []api.Cell{cell("t", "r", "new", ""), cell("t", "s", "cid", longest), cell("u", "r", "ann", " ~ ")}},
		{Seq: 1, Mark: any16, Rows: []api.Cell{cell("a", "bc", "ann", "1"), cell("ab", "a", "ann", "2"), cell("ab", "c", "ann", "3"), cell("abcdefghij", "a123456789", "abcdefghij", "4")}},
		{Seq: 1, Mark: any16, Rows: []api.Cell{cell("t", "z", "zoe", "9"), cell("t1", "a", "ann", "1"), cell("u", "a", "ann", "0")}},
	}
}

// wrongSaves may not be, each for one thing.
func wrongSaves() []Save {
	m, row, next := strings.Repeat("x", 16), cell("t", "r", "ann", "v"), cell("t", "s", "ann", "v")
	out := []Save{
		{}, {Seq: -1, Mark: none}, {Seq: -1, Mark: m}, {Seq: -1, Lost: -1, Mark: none}, {Seq: math.MinInt, Lost: math.MinInt, Mark: m},
		{Seq: 1, Lost: -1, Mark: m}, {Seq: 1, Lost: math.MinInt, Mark: m}, {Seq: 0, Lost: -1, Mark: none},
		{Seq: 1, Lost: 2, Mark: m}, {Seq: 0, Lost: 1, Mark: none}, {Seq: math.MaxInt - 1, Lost: math.MaxInt, Mark: m},
		{Seq: 1, Mark: ""}, {Seq: 1, Mark: m[:15]}, {Seq: 1, Mark: m + "x"}, {Seq: 1, Mark: none[:15]}, {Seq: 1, Mark: none + "\x00"}, {Seq: 1, Mark: m + m}, {Seq: 1, Mark: strings.Repeat("é", 16)},
		{Seq: 0, Mark: m}, {Seq: 0, Mark: none[:15] + "\x01"}, {Seq: 0, Mark: "\x01" + none[1:]}, {Seq: 0, Mark: none[:15]}, {Seq: 0, Mark: none + "\x00"},
		{Seq: 0, Mark: none, Rows: []api.Cell{row}}, {Seq: 0, Mark: none, Rows: []api.Cell{{}}},
	}
	for _, rows := range [][]api.Cell{
		{next, row}, {row, row}, {row, next, next}, {row, next, row}, {row, cell("t", "r", "ann", "w")}, {row, cell("t", "r", "bob", "w")}, {cell("u", "a", "ann", ""), cell("t", "z", "ann", "")}, {cell("ab", "c", "ann", ""), cell("a", "bc", "ann", "")}, {cell("t", "r1", "ann", ""), row},
	} {
		out = append(out, Save{Seq: 9, Mark: m, Rows: rows})
	}
	for _, c := range []api.Cell{
		{}, cell("", "r", "ann", "v"), cell("t", "", "ann", "v"), cell("t", "r", "", "v"), cell("T", "r", "ann", "v"), cell("t", "R", "ann", "v"), cell("t", "r", "Ann", "v"), cell("t ", "r", "ann", "v"), cell("1t", "r", "ann", "v"),
		cell("abcdefghijk", "r", "ann", "v"), cell("t", "abcdefghijk", "ann", "v"), cell("t", "r", "abcdefghijk", "v"),
		cell("t", "r", "ann", longest+"u"), cell("t", "r", "ann", "\x1f"), cell("t", "r", "ann", "\x7f"), cell("t", "r", "ann", "é"), cell("t", "r", "ann", "\xff"), cell("t", "r", "ann", strings.Repeat("v", 70_000)),
	} {
		last := c
		if c.Table == "t" {
			last.Table = "z"
		}
		out = append(out, Save{Seq: 9, Mark: m, Rows: []api.Cell{c}}, Save{Seq: 9, Mark: m, Rows: []api.Cell{c, cell("zz", "r", "ann", "v")}}, Save{Seq: 9, Mark: m, Rows: []api.Cell{row, next, last}})
	}
	return out
}

// TestLoadRight (9.2): all that the document does not refuse.
func TestLoadRight(t *testing.T) {
	v := mustSource(t, some()...).Vault()
	for _, s := range rightSaves() {
		mustLoad(t, v, s)
		wantNoLoad(t, nil, s, api.ErrMissing)
	}
}

// TestLoadWrong (9.2): ErrArg each time; of no vault ErrMissing, which is told first.
func TestLoadWrong(t *testing.T) {
	v := mustSource(t, some()...).Vault()
	before := held(v)
	for _, s := range wrongSaves() {
		wantNoLoad(t, v, s, api.ErrArg)
		wantNoLoad(t, nil, s, api.ErrMissing)
	}
	if held(v) != before {
		t.Error("Load changes the vault")
	}
}

// TestLoadKeepsNoList (9.2, P4): the Rows that are handed in are neither written into nor kept, nor what stands behind them.
func TestLoadKeepsNoList(t *testing.T) {
	v, l, _, saved := lateReader(t)
	behind := cell("b", "b", "b", "b")
	list := append(slices.Clone(saved.Rows), behind, behind)
	copied := slices.Clone(list)
	s := saved
	s.Rows = list[:len(saved.Rows)]
	r := mustLoad(t, v, s)
	wantRead(t, r, l[6], 0)
	forged := api.Record{Seq: 8, Subject: "ann", Prev: markApart(l[6]), Body: "gone ann"}
	wantRead(t, r, forged, 0)
	if !slices.Equal(list, copied) {
		t.Errorf("the Rows that were handed in: %+v, want %+v", list, copied)
	}
	r = mustLoad(t, v, s)
	for i := range list {
		list[i] = cell("x", "x", "x", "x")
	}
	wantSave(t, r, saved)
	wantRead(t, r, l[6], 0)
	wantCells(t, r, wantSome()[6]...)
	wrong := []api.Cell{cell("t", "s", "ann", "v"), cell("t", "r", "ann", "v"), behind}
	copied = slices.Clone(wrong)
	wantNoLoad(t, v, Save{Seq: 1, Mark: saved.Mark, Rows: wrong[:2]}, api.ErrArg)
	if !slices.Equal(wrong, copied) {
		t.Errorf("Rows that may not be: %+v, want %+v", wrong, copied)
	}
}

// TestGreatestNumber (9.1, 9.2): the last one that may be read is the greatest number; nothing is one more than that.
func TestGreatestNumber(t *testing.T) {
	m := strings.Repeat("x", 16)
	v := mustSource(t, some()...).Vault()
	r := mustLoad(t, v, Save{Seq: math.MaxInt - 1, Mark: m, Lost: math.MaxInt - 1, Rows: []api.Cell{cell("t", "r", "bob", "")}})
	last := api.Record{Seq: math.MaxInt, Subject: "cid", Gen: 1, Prev: m}
	wantNothing(t, r, api.Record{Seq: math.MinInt, Subject: "cid", Gen: 1, Prev: m}, api.ErrOrder)
	wantRead(t, r, last, 1)
	for _, seq := range []int{math.MinInt, math.MinInt + 1, -1, 0} {
		wantNothing(t, r, api.Record{Seq: seq, Subject: "bob", Prev: markApart(last), Body: "gone bob"}, api.ErrOrder)
	}
	for _, seq := range []int{1, 2, math.MaxInt - 1, math.MaxInt} {
		wantNothing(t, r, api.Record{Seq: seq, Subject: "bob", Prev: markApart(last), Body: "gone bob"}, api.OK)
	}
	mustLoad(t, v, r.Save())
}

// TestMarkOfLoad (9.2): the next record must follow the Mark that was loaded.
func TestMarkOfLoad(t *testing.T) {
	v, l, _, saved := lateReader(t)
	for _, mark := range variants(saved.Mark) {
		s := saved
		s.Mark = mark
		if len(mark) != 16 {
			wantNoLoad(t, v, s, api.ErrArg)
			continue
		}
		wantNothing(t, mustLoad(t, v, s), l[6], api.ErrSpoilt)
	}
}
