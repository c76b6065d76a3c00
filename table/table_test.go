package table

import (
	"errors"
	"math"
	"slices"
	"sort"
	"strings"
	"testing"

	"oubliette/api"
)

// longest: a value of MaxValue bytes.
const longest = "abcdefghijklmnopqrst"

// wrong: events that may not be; those with good names speak of rows that filled has.
var wrong = []api.Event{
	{},
	{Kind: api.Put}, {Kind: api.Del}, {Kind: api.Gone},
	{Kind: 0, Subject: "ann"}, {Kind: 4, Subject: "ann"}, {Kind: -1, Subject: "ann"}, {Kind: math.MaxInt, Subject: "ann"}, {Kind: math.MinInt, Subject: "ann"},
	{Kind: 0, Subject: "ann", Table: "t", Row: "r", Value: "w"}, {Kind: 4, Subject: "ann", Table: "t", Row: "r"}, {Kind: 257, Subject: "ann", Table: "t", Row: "r", Value: "w"},
	put("", "t", "r", "w"), put("Ann", "t", "r", "w"), put("1", "t", "r", "w"), put("ann ", "t", "r", "w"), put("abcdefghijk", "t", "r", "w"), put("\xff", "t", "r", "w"),
	put("ann", "", "r", "w"), put("ann", "T", "r", "w"), put("ann", "1", "r", "w"), put("ann", "t ", "r", "w"), put("ann", "abcdefghijk", "r", "w"),
	put("ann", "t", "", "w"), put("ann", "t", "R", "w"), put("ann", "t", "1", "w"), put("ann", "t", "r ", "w"), put("ann", "t", "abcdefghijk", "w"),
	put("ann", "t", "r", longest+"u"), put("ann", "t", "r", "\x1f"), put("ann", "t", "r", "\x7f"), put("ann", "t", "r", "a\n"), put("ann", "t", "r", "é"), put("ann", "t", "r", strings.Repeat("w", 70_000)),
	put("eve", "new", "new", "\x00"), put("eve", "new", "", ""), put("", "new", "new", ""),
	del("", "t", "r"), del("Ann", "t", "r"), del("ann", "", "r"), del("ann", "t", ""), del("ann", "T", "r"), del("ann", "t", "R"), del("ann", "", ""),
	{Kind: api.Del, Subject: "ann", Table: "t", Row: "r", Value: "v"}, {Kind: api.Del, Subject: "ann", Table: "t", Row: "r", Value: " "},
	gone(""), gone("Ann"), gone("ann "), gone("1ann"), gone("abcdefghijk"),
	{Kind: api.Gone, Subject: "ann", Table: "t"}, {Kind: api.Gone, Subject: "ann", Row: "r"}, {Kind: api.Gone, Subject: "ann", Value: "v"}, {Kind: api.Gone, Subject: "ann", Table: "t", Row: "r"}, {Kind: api.Gone, Subject: "ann", Table: "t", Row: "r", Value: "v"},
}

func put(subject, table, row, value string) api.Event {
	return api.Event{Kind: api.Put, Subject: subject, Table: table, Row: row, Value: value}
}

func del(subject, table, row string) api.Event {
	return api.Event{Kind: api.Del, Subject: subject, Table: table, Row: row}
}

func gone(subject string) api.Event {
	return api.Event{Kind: api.Gone, Subject: subject}
}

func cell(table, row, subject, value string) api.Cell {
	return api.Cell{Table: table, Row: row, Subject: subject, Value: value}
}

// wantErrno: that error, without a place (P3).
func wantErrno(t *testing.T, what string, err error, want api.Errno) {
	t.Helper()
	if api.Tell(err) != want {
		t.Errorf("%.100s: %v, want %v", what, err, want)
	}
	var at *api.At
	if errors.As(err, &at) {
		t.Errorf("%.100s: the error has a place, %d", what, at.Place)
	}
}

// apply: these may all be.
func apply(t *testing.T, rows *Table, events ...api.Event) {
	t.Helper()
	for _, e := range events {
		if err := rows.Apply(e); err != nil {
			t.Errorf("Apply(%+v): %v", e, err)
		}
	}
}

// filled has rows of two subjects in two tables.
func filled(t *testing.T) (*Table, []api.Cell) {
	t.Helper()
	rows := &Table{}
	apply(t, rows, put("bob", "u", "r", "4"), put("ann", "t", "r", "v"), put("ann", "u", "s", ""), put("bob", "t", "s", "2"))
	return rows, []api.Cell{cell("t", "r", "ann", "v"), cell("t", "s", "bob", "2"), cell("u", "r", "bob", "4"), cell("u", "s", "ann", "")}
}

// wantCells: just these, in this order, and Get tells each of them.
func wantCells(t *testing.T, rows *Table, want ...api.Cell) {
	t.Helper()
	if got := rows.Cells(); !slices.Equal(got, want) {
		t.Errorf("Cells: %+v, want %+v", got, want)
	}
	for _, c := range want {
		wantGet(t, rows, c)
	}
}

func wantGet(t *testing.T, rows *Table, want api.Cell) {
	t.Helper()
	if c, err := rows.Get(want.Table, want.Row); c != want || err != nil {
		t.Errorf("Get(%q, %q): %+v, %v, want %+v", want.Table, want.Row, c, err, want)
	}
}

// wantNoGet: that error alone (P2).
func wantNoGet(t *testing.T, rows *Table, table, row string) {
	t.Helper()
	c, err := rows.Get(table, row)
	if c != (api.Cell{}) {
		t.Errorf("Get(%.100q, %.100q): %+v beside %v", table, row, c, err)
	}
	wantErrno(t, "Get("+table+", "+row+")", err, api.ErrMissing)
}

// TestZeroValue (6.1): it has no rows, and what takes rows away is no error there.
func TestZeroValue(t *testing.T) {
	var asked, deleted, forgotten, written Table
	wantCells(t, &asked)
	wantNoGet(t, &asked, "t", "r")
	wantNoGet(t, &asked, "", "")
	apply(t, &deleted, del("ann", "t", "r"))
	wantCells(t, &deleted)
	wantNoGet(t, &deleted, "t", "r")
	apply(t, &forgotten, gone("ann"))
	wantCells(t, &forgotten)
	wantNoGet(t, &forgotten, "t", "r")
	apply(t, &written, put("ann", "t", "r", "v"))
	wantCells(t, &written, cell("t", "r", "ann", "v"))
	wantCells(t, &asked)
}

// TestNilTable (P1): no call panics, and nothing is told of rows that cannot be kept.
func TestNilTable(t *testing.T) {
	var rows *Table
	for _, e := range wrong {
		wantErrno(t, "Apply of what may not be", rows.Apply(e), api.ErrArg)
	}
	for _, e := range []api.Event{put("ann", "t", "r", "v"), del("ann", "t", "r"), gone("ann")} {
		wantErrno(t, "Apply", rows.Apply(e), api.ErrMissing)
	}
	wantCells(t, rows)
	wantNoGet(t, rows, "t", "r")
}

func sign(n int) int {
	switch {
	case n < 0:
		return -1
	case n > 0:
		return 1
	}
	return 0
}

// wantCompare: so, and turned round the other way.
func wantCompare(t *testing.T, a, b api.Cell, want int) {
	t.Helper()
	if got := sign(Compare(a, b)); got != want {
		t.Errorf("Compare(%+v, %+v): %d, want %d", a, b, got, want)
	}
	if got := sign(Compare(b, a)); got != -want {
		t.Errorf("Compare(%+v, %+v): %d, want %d", b, a, got, -want)
	}
}

// TestCompare (6.1): tables first, then rows.
func TestCompare(t *testing.T) {
	for _, c := range []struct {
		a, b api.Cell
		want int
	}{
		{cell("", "", "", ""), cell("", "", "", ""), 0},
		{cell("t", "r", "", ""), cell("t", "r", "", ""), 0},
		{cell("t", "r", "", ""), cell("u", "r", "", ""), -1},
		{cell("t", "q", "", ""), cell("t", "r", "", ""), -1},
		{cell("t", "z", "", ""), cell("u", "a", "", ""), -1},
		{cell("t", "r", "", ""), cell("tt", "r", "", ""), -1},
		{cell("t", "z", "", ""), cell("tt", "a", "", ""), -1},
		{cell("t", "r", "", ""), cell("t", "rr", "", ""), -1},
		{cell("t", "", "", ""), cell("t", "a", "", ""), -1},
		{cell("", "z", "", ""), cell("a", "", "", ""), -1},
		{cell("a", "bc", "", ""), cell("ab", "c", "", ""), -1},
		{cell("a", "bc", "", ""), cell("ab", "a", "", ""), -1},
		{cell("t", "r10", "", ""), cell("t", "r9", "", ""), -1},
		{cell("t10", "r", "", ""), cell("t9", "r", "", ""), -1},
		{cell("t", "r0", "", ""), cell("t", "ra", "", ""), -1},
		{cell("t", "B", "", ""), cell("t", "a", "", ""), -1},
	} {
		wantCompare(t, c.a, c.b, c.want)
	}
}

// TestCompareOfOthers (6.1): whose a row is, and its value, is nothing to the order.
func TestCompareOfOthers(t *testing.T) {
	others := []string{"", "a", "ann", "bob", "zz", "\xff"}
	for _, s := range others {
		for _, v := range others {
			wantCompare(t, cell("t", "r", "bob", "m"), cell("t", "r", s, v), 0)
			wantCompare(t, cell("t", "r", "bob", "m"), cell("t", "s", s, v), -1)
			wantCompare(t, cell("t", "r", "bob", "m"), cell("u", "a", s, v), -1)
		}
	}
}

// TestCompareByteByByte (6.1, P5): any texts, not names alone; each is ahead of those behind it in the list.
func TestCompareByteByByte(t *testing.T) {
	rising := []string{"", "\x00", "\x00\x00", "\x00a", "\x01", "\n", " ", " a", "0", "10", "9", "A", "B", "Z", "_", "a", "a\x00", "a ", "a0", "a1", "a10", "a2", "aa", "aab", "ab", "b", "z", "~", "\x7f", "\x80", "\xc3", "é", "\xc3\xff", "\uffff", "\U00010000", "\xff", "\xff\x00", "\xff\xff"}
	for i, a := range rising {
		for j, b := range rising {
			want := sign(i - j)
			wantCompare(t, cell(a, "r", "", ""), cell(b, "r", "", ""), want)
			wantCompare(t, cell("t", a, "", ""), cell("t", b, "", ""), want)
			wantCompare(t, cell(a, a, "", ""), cell(b, b, "", ""), want)
			if want != 0 {
				wantCompare(t, cell(a, b, "", ""), cell(b, a, "", ""), want)
			}
		}
	}
	long := strings.Repeat("a", 70_000)
	wantCompare(t, cell(long, "r", "", ""), cell(long, "r", "", ""), 0)
	wantCompare(t, cell(long, "r", "", ""), cell(long+"a", "a", "", ""), -1)
	wantCompare(t, cell("t", long+"a", "", ""), cell("t", long+"b", "", ""), -1)
}

// TestWrongEvents (6.1, P2): ErrArg, and nothing is changed, whether there are rows or not.
func TestWrongEvents(t *testing.T) {
	rows, want := filled(t)
	var none Table
	for _, e := range wrong {
		wantErrno(t, "Apply of what may not be", rows.Apply(e), api.ErrArg)
		wantCells(t, rows, want...)
		wantErrno(t, "Apply of what may not be", none.Apply(e), api.ErrArg)
		wantCells(t, &none)
		wantNoGet(t, &none, e.Table, e.Row)
	}
	wantNoGet(t, rows, "new", "new")
	apply(t, &none, put("ann", "t", "r", "v"))
	wantCells(t, &none, cell("t", "r", "ann", "v"))
}

// TestPut (6.1): the last one is true.
func TestPut(t *testing.T) {
	var rows Table
	apply(t, &rows, put("ann", "mail", "box", "a b"))
	wantCells(t, &rows, cell("mail", "box", "ann", "a b"))
	apply(t, &rows, put("ann", "mail", "box", "new"))
	wantCells(t, &rows, cell("mail", "box", "ann", "new"))
	apply(t, &rows, put("ann", "mail", "box", "new"))
	wantCells(t, &rows, cell("mail", "box", "ann", "new"))
	apply(t, &rows, put("ann", "mail", "box", "a b"))
	wantCells(t, &rows, cell("mail", "box", "ann", "a b"))
	apply(t, &rows, put("ann", "mail", "other", "x"))
	wantCells(t, &rows, cell("mail", "box", "ann", "a b"), cell("mail", "other", "ann", "x"))
}

// TestPutOfAnothersRow (6.1): it is then the Subject's, and no more the other one's.
func TestPutOfAnothersRow(t *testing.T) {
	var rows Table
	apply(t, &rows, put("ann", "t", "r", "v"), put("bob", "t", "r", "w"))
	wantCells(t, &rows, cell("t", "r", "bob", "w"))
	apply(t, &rows, del("ann", "t", "r"), gone("ann"))
	wantCells(t, &rows, cell("t", "r", "bob", "w"))
	apply(t, &rows, put("ann", "t", "r", "w"))
	wantCells(t, &rows, cell("t", "r", "ann", "w"))
	apply(t, &rows, gone("bob"))
	wantCells(t, &rows, cell("t", "r", "ann", "w"))
	apply(t, &rows, del("ann", "t", "r"))
	wantCells(t, &rows)
}

// TestPutOfEdges (6.1): a row of the empty value is there; values and names as they are told, to the byte.
func TestPutOfEdges(t *testing.T) {
	var rows Table
	apply(t, &rows, put("ann", "t", "r", ""))
	wantCells(t, &rows, cell("t", "r", "ann", ""))
	apply(t, &rows, put("ann", "t", "r", "v"), put("ann", "t", "r", ""))
	wantCells(t, &rows, cell("t", "r", "ann", ""))
	apply(t, &rows, put("bob", "t", "r", ""))
	wantCells(t, &rows, cell("t", "r", "bob", ""))
	for _, v := range []string{" ", "  ", " x ", "~", "put ann t r v", "A-Z 0-9", longest} {
		apply(t, &rows, put("bob", "t", "r", v))
		wantCells(t, &rows, cell("t", "r", "bob", v))
	}
	apply(t, &rows, del("bob", "t", "r"), put("z123456789", "abcdefghij", "q0q0q0q0q0", longest), put("t", "t", "t", "t"))
	wantCells(t, &rows, cell("abcdefghij", "q0q0q0q0q0", "z123456789", longest), cell("t", "t", "t", "t"))
}

// TestDel (6.1): the Subject's own row alone, and no other one of the Subject's.
func TestDel(t *testing.T) {
	rows, want := filled(t)
	apply(t, rows, del("bob", "t", "r"), del("eve", "t", "r"), del("ann", "t", "s"), del("a", "t", "r"), del("annn", "t", "r"))
	wantCells(t, rows, want...)
	apply(t, rows, del("ann", "t", "q"), del("ann", "x", "r"), del("eve", "x", "y"), del("r", "t", "ann"))
	wantCells(t, rows, want...)
	apply(t, rows, del("ann", "t", "r"))
	wantCells(t, rows, want[1:]...)
	wantNoGet(t, rows, "t", "r")
	apply(t, rows, del("ann", "t", "r"), del("bob", "t", "r"))
	wantCells(t, rows, want[1:]...)
	apply(t, rows, del("ann", "u", "s"))
	wantCells(t, rows, want[1:3]...)
	apply(t, rows, put("bob", "t", "r", "back"))
	wantCells(t, rows, cell("t", "r", "bob", "back"), want[1], want[2])
	apply(t, rows, del("bob", "t", "r"), del("bob", "t", "s"), del("bob", "u", "r"))
	wantCells(t, rows)
}

// TestGone (6.1): all of the subject's rows, in all tables, and none of the others'; twice is once.
func TestGone(t *testing.T) {
	var rows Table
	apply(t, &rows, put("ann", "t", "a", "1"), put("bob", "t", "b", "2"), put("ann", "t", "c", ""), put("ann", "u", "a", "4"), put("eve", "u", "b", "5"), put("ann", "x", "y", "6"), put("an", "x", "z", "7"), put("anna", "y", "ann", "ann"))
	left := []api.Cell{cell("t", "b", "bob", "2"), cell("u", "b", "eve", "5"), cell("x", "z", "an", "7"), cell("y", "ann", "anna", "ann")}
	for range 2 {
		apply(t, &rows, gone("ann"))
		wantCells(t, &rows, left...)
		wantNoGet(t, &rows, "t", "a")
		wantNoGet(t, &rows, "t", "c")
		wantNoGet(t, &rows, "u", "a")
		wantNoGet(t, &rows, "x", "y")
	}
	apply(t, &rows, gone("zoe"), gone("t"), gone("b"), gone("y"))
	wantCells(t, &rows, left...)
	apply(t, &rows, del("ann", "t", "a"), put("ann", "t", "c", "again"))
	wantCells(t, &rows, left[0], cell("t", "c", "ann", "again"), left[1], left[2], left[3])
	wantNoGet(t, &rows, "t", "a")
	apply(t, &rows, gone("bob"), gone("eve"), gone("an"), gone("anna"))
	wantCells(t, &rows, cell("t", "c", "ann", "again"))
	apply(t, &rows, gone("ann"))
	wantCells(t, &rows)
}

// TestSameNames (6.1): each for itself: rows of one name in two tables, and names that are the same put together.
func TestSameNames(t *testing.T) {
	var rows Table
	apply(t, &rows, put("ann", "t", "r", "1"), put("bob", "u", "r", "2"), put("ann", "r", "t", "3"))
	wantCells(t, &rows, cell("r", "t", "ann", "3"), cell("t", "r", "ann", "1"), cell("u", "r", "bob", "2"))
	apply(t, &rows, put("ann", "t", "r", "new"))
	wantCells(t, &rows, cell("r", "t", "ann", "3"), cell("t", "r", "ann", "new"), cell("u", "r", "bob", "2"))
	apply(t, &rows, del("ann", "t", "r"))
	wantCells(t, &rows, cell("r", "t", "ann", "3"), cell("u", "r", "bob", "2"))
	apply(t, &rows, gone("ann"), gone("bob"))
	apply(t, &rows, put("ann", "ab", "c", "1"), put("bob", "a", "bc", "2"), put("ann", "a", "b", "3"))
	wantCells(t, &rows, cell("a", "b", "ann", "3"), cell("a", "bc", "bob", "2"), cell("ab", "c", "ann", "1"))
	apply(t, &rows, del("bob", "a", "bc"))
	wantCells(t, &rows, cell("a", "b", "ann", "3"), cell("ab", "c", "ann", "1"))
}

// orders calls f with each order of a list.
func orders[E any](l []E, f func([]E)) {
	var grow func(k int)
	grow = func(k int) {
		if k == len(l) {
			f(l)
			return
		}
		for i := k; i < len(l); i++ {
			l[k], l[i] = l[i], l[k]
			grow(k + 1)
			l[k], l[i] = l[i], l[k]
		}
	}
	grow(0)
}

// TestCellsInOrder (6.1): by Compare, however the rows came.
func TestCellsInOrder(t *testing.T) {
	rising := []api.Cell{cell("a", "z", "zoe", "9"), cell("ab", "b", "ann", "1"), cell("ab", "b0", "bob", ""), cell("ab", "ba", "eve", "x"), cell("b", "a", "ann", "z"), cell("b1", "a", "ann", "a")}
	orders(slices.Clone(rising), func(l []api.Cell) {
		var rows Table
		for _, c := range l {
			apply(t, &rows, put(c.Subject, c.Table, c.Row, c.Value))
		}
		wantCells(t, &rows, rising...)
		wantCells(t, &rows, rising...)
	})
}

// TestManyRows (6.1): in order, too; and gone, each second one.
func TestManyRows(t *testing.T) {
	var rows Table
	var all, anns []api.Cell
	const letters = "abcdefghijklmnopqrstuvwxyz"
	for i := range len(letters) {
		for j := range len(letters) {
			c := cell(letters[i:i+1], letters[j:j+1], []string{"ann", "bob"}[(i+j)%2], letters[j:])
			c.Value = c.Value[:min(len(c.Value), api.MaxValue)]
			all = append(all, c)
			if c.Subject == "ann" {
				anns = append(anns, c)
			}
		}
	}
	for i := range all {
		c := all[i*31%len(all)] // 31 and 676 have no divisor in common: each comes once
		apply(t, &rows, put(c.Subject, c.Table, c.Row, c.Value))
	}
	wantCells(t, &rows, all...)
	apply(t, &rows, gone("bob"))
	wantCells(t, &rows, anns...)
}

// TestFreshCells (P4): what a caller writes into an answer changes nothing, nor does what happens later change an answer.
func TestFreshCells(t *testing.T) {
	rows, want := filled(t)
	first, second := rows.Cells(), rows.Cells()
	for i := range first {
		first[i] = cell("x", "x", "x", "x")
	}
	if !slices.Equal(second, want) {
		t.Errorf("what is written into one answer is read in another: %+v", second)
	}
	wantCells(t, rows, want...)
	third := rows.Cells()[:2]
	_ = append(third, cell("x", "x", "x", "x"))
	wantCells(t, rows, want...)
	apply(t, rows, put("ann", "a", "a", "a"), put("bob", "t", "r", "new"), gone("ann"))
	if !slices.Equal(second, want) {
		t.Errorf("what happened later is read in an answer: %+v", second)
	}
	got, err := rows.Get("t", "r")
	got.Value = "x"
	if err != nil {
		t.Errorf("Get: %v", err)
	}
	wantGet(t, rows, cell("t", "r", "bob", "new"))
}

// TestGet (6.1): rows that are there, and names, and what is none, that are not.
func TestGet(t *testing.T) {
	rows, want := filled(t)
	for _, c := range want {
		wantGet(t, rows, c)
	}
	for _, c := range [][2]string{{"t", "q"}, {"x", "r"}, {"r", "t"}, {"", ""}, {"t", ""}, {"", "r"}, {"tr", ""}, {"", "tr"}, {"T", "r"}, {"t", "R"}, {"t ", "r"}, {"t", "r "}, {"t", "rr"}, {"tt", "r"}, {"t\x00", "r"}, {"\xff", "\xff"}, {"t", "ann"}, {"ann", "r"}, {strings.Repeat("t", 70_000), "r"}} {
		wantNoGet(t, rows, c[0], c[1])
	}
	wantCells(t, rows, want...)
}

// TestTwoTables (P4): what is done to one is nothing to another.
func TestTwoTables(t *testing.T) {
	var a, b Table
	apply(t, &a, put("ann", "t", "r", "1"))
	wantCells(t, &b)
	apply(t, &b, put("ann", "t", "r", "2"), put("bob", "t", "s", "3"))
	wantCells(t, &a, cell("t", "r", "ann", "1"))
	apply(t, &a, gone("ann"))
	wantCells(t, &a)
	wantCells(t, &b, cell("t", "r", "ann", "2"), cell("t", "s", "bob", "3"))
}

// happened: the events that happened, all of which may be; what the rows are is told from their end, apart from the program.
type happened []api.Event

// last is what became of a row: the last Put, unless its subject's Del or Gone stands behind it.
func (l happened) last(table, row string) (api.Cell, bool) {
	taken := map[string]bool{}
	for i := len(l) - 1; i >= 0; i-- {
		e := l[i]
		here := e.Table == table && e.Row == row
		switch {
		case e.Kind == 3, e.Kind == 2 && here:
			taken[e.Subject] = true
		case e.Kind == 1 && here:
			return cell(table, row, e.Subject, e.Value), !taken[e.Subject]
		}
	}
	return api.Cell{}, false
}

// cells are all that are there, in order.
func (l happened) cells() []api.Cell {
	var out []api.Cell
	seen := map[[2]string]bool{}
	for _, e := range l {
		at := [2]string{e.Table, e.Row}
		if e.Kind != 1 || seen[at] {
			continue
		}
		seen[at] = true
		if c, ok := l.last(e.Table, e.Row); ok {
			out = append(out, c)
		}
	}
	sort.Slice(out, func(i, j int) bool {
		if out[i].Table != out[j].Table {
			return out[i].Table < out[j].Table
		}
		return out[i].Row < out[j].Row
	})
	return out
}

// TestShortHistories (6.1): each history of up to four events of a few.
func TestShortHistories(t *testing.T) {
	events := []api.Event{
		put("ann", "t", "r", "1"), put("ann", "t", "r", ""), put("bob", "t", "r", "2"), put("ann", "u", "r", "3"), put("bob", "t", "q", "4"),
		del("ann", "t", "r"), del("bob", "t", "r"), del("ann", "u", "r"), del("ann", "t", "q"),
		gone("ann"), gone("bob"), gone("eve"),
	}
	var grow func(l happened)
	grow = func(l happened) {
		var rows Table
		apply(t, &rows, l...)
		wantCells(t, &rows, l.cells()...)
		if len(l) == 4 {
			return
		}
		for _, e := range events {
			grow(append(l[:len(l):len(l)], e))
		}
	}
	grow(nil)
}

// draw: numbers that look drawn, the same each time.
type draw uint64

func (d *draw) below(most int) int {
	*d = *d*6364136223846793005 + 1442695040888963407
	return int(uint64(*d>>33) % uint64(most))
}

func (d *draw) of(l ...string) string {
	return l[d.below(len(l))]
}

// drawnEvent may be.
func drawnEvent(d *draw) api.Event {
	e := api.Event{Kind: []int{api.Put, api.Put, api.Put, api.Put, api.Put, api.Put, api.Del, api.Del, api.Del, api.Gone}[d.below(10)]}
	e.Subject = d.of("ann", "an", "bob", "eve", "t")
	if e.Kind != api.Gone {
		e.Table, e.Row = d.of("t", "u", "tt", "a"), d.of("r", "s", "t", "tr", "a1")
	}
	if e.Kind == api.Put {
		e.Value = d.of("", " ", "v", "a b", "new", longest)
	}
	return e
}

// TestDrawnHistories (6.1): long ones, wrong events among them, after each event.
func TestDrawnHistories(t *testing.T) {
	d := draw(6)
	for range 200 {
		var rows Table
		var l happened
		for range d.below(60) {
			if d.below(10) == 0 {
				wantErrno(t, "Apply of what may not be", rows.Apply(wrong[d.below(len(wrong))]), api.ErrArg)
			} else {
				l = append(l, drawnEvent(&d))
				apply(t, &rows, l[len(l)-1])
			}
			wantCells(t, &rows, l.cells()...)
			table, row := d.of("t", "u", "x"), d.of("r", "tr", "x")
			if want, ok := l.last(table, row); ok {
				wantGet(t, &rows, want)
			} else {
				wantNoGet(t, &rows, table, row)
			}
		}
	}
}
