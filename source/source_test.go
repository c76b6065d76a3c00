package source

import (
	"errors"
	"fmt"
	"math"
	"slices"
	"sort"
	"strings"
	"sync"
	"testing"

	"oubliette/api"
	"oubliette/event"
	"oubliette/feed"
	"oubliette/vault"
)

const (
	secret  = "0123456789abcdef"
	longest = "abcdefghijklmnopqrst" // a value of MaxValue bytes
)

func put(subject, table, row, value string) api.Event {
	return api.Event{Kind: api.Put, Subject: subject, Table: table, Row: row, Value: value}
}

func del(subject, table, row string) api.Event {
	return api.Event{Kind: api.Del, Subject: subject, Table: table, Row: row}
}

func gone(subject string) api.Event {
	return api.Event{Kind: api.Gone, Subject: subject}
}

func cell(table, row, subject, value string) api.Cell {
	return api.Cell{Table: table, Row: row, Subject: subject, Value: value}
}

func mustNew(t *testing.T, secret string) *Source {
	t.Helper()
	s, err := New(secret)
	if s == nil || err != nil {
		t.Fatalf("New(%q): %v, %v", secret, s, err)
	}
	return s
}

// wantErrno: that error, without a place (P3).
func wantErrno(t *testing.T, what string, err error, want api.Errno) {
	t.Helper()
	if api.Tell(err) != want {
		t.Errorf("%.150s: %v, want %v", what, err, want)
	}
	var at *api.At
	if errors.As(err, &at) {
		t.Errorf("%.150s: the error has a place, %d", what, at.Place)
	}
}

// all is what a source tells: its records, its rows, and its keys.
func all(s *Source) string {
	v := s.Vault()
	told := fmt.Sprintf("%q %q %q", fmt.Sprint(s.Feed()), fmt.Sprint(s.Cells()), v.Subjects())
	for _, subject := range []string{"ann", "bob", "eve", "new", "zoe", "Ann", ""} {
		for gen := range 5 {
			k, err := v.Key(subject, gen)
			told += fmt.Sprintf(" %s %d %x %d", subject, gen, k, api.Tell(err))
		}
	}
	return told
}

// do: these are all done, and each one's record is the feed's last one.
func do(t *testing.T, s *Source, events ...api.Event) {
	t.Helper()
	for _, e := range events {
		before := s.Feed()
		r, err := s.Do(e)
		if err != nil {
			t.Errorf("Do(%+v): %v", e, err)
			continue
		}
		if r.Seq != len(before)+1 || r.Subject != e.Subject {
			t.Errorf("Do(%+v): %+v behind %d records", e, r, len(before))
		}
		if got := s.Feed(); !slices.Equal(got, append(before, r)) {
			t.Errorf("Feed behind Do(%+v): %+v, want %+v behind %+v", e, got, r, before)
		}
	}
}

// wantNoDo: that error alone, and nothing is changed: no record, no row, no key (P2).
func wantNoDo(t *testing.T, s *Source, e api.Event, want api.Errno) {
	t.Helper()
	before := all(s)
	r, err := s.Do(e)
	if r != (api.Record{}) {
		t.Errorf("Do(%.100q): %+v beside %v", fmt.Sprint(e), r, err)
	}
	wantErrno(t, fmt.Sprintf("Do(%+v)", e), err, want)
	if got := all(s); got != before {
		t.Errorf("Do(%.100q): an error, and it is %s, want %s", fmt.Sprint(e), got, before)
	}
}

func wantCells(t *testing.T, s *Source, want ...api.Cell) {
	t.Helper()
	if got := s.Cells(); !slices.Equal(got, want) {
		t.Errorf("Cells: %+v, want %+v", got, want)
	}
}

func wantSubjects(t *testing.T, s *Source, want ...string) {
	t.Helper()
	if got := s.Vault().Subjects(); !slices.Equal(got, want) {
		t.Errorf("Subjects: %q, want %q", got, want)
	}
}

// filled has rows of two subjects in two tables.
func filled(t *testing.T) (*Source, []api.Cell) {
	t.Helper()
	s := mustNew(t, secret)
	do(t, s, put("bob", "u", "r", "4"), put("ann", "t", "r", "v"), put("ann", "u", "s", ""), put("bob", "t", "s", "2"))
	return s, []api.Cell{cell("t", "r", "ann", "v"), cell("t", "s", "bob", "2"), cell("u", "r", "bob", "4"), cell("u", "s", "ann", "")}
}

// TestNew (8.1): a secret of 16 bytes, and none of another size; no rows, no records, no keys.
func TestNew(t *testing.T) {
	for n := range 70 {
		s, err := New(strings.Repeat("s", n))
		if n == 16 {
			if s == nil || err != nil {
				t.Errorf("New of 16 bytes: %v, %v", s, err)
			}
			continue
		}
		if s != nil {
			t.Errorf("New of %d bytes: a source beside %v", n, err)
		}
		wantErrno(t, "New of another size", err, api.ErrArg)
	}
	_, err := New(strings.Repeat("é", 16))
	wantErrno(t, "New of 16 letters that are 32 bytes", err, api.ErrArg)
	for _, secret := range []string{secret, strings.Repeat("\x00", 16), strings.Repeat("\xff", 16), strings.Repeat("é", 8)} {
		s := mustNew(t, secret)
		wantCells(t, s)
		if s.Vault() == nil || len(s.Feed()) != 0 {
			t.Errorf("a new source: %v, %+v", s.Vault(), s.Feed())
		}
		wantSubjects(t, s)
	}
}

// TestVaultOfTheSecret (8.1): the vault is one of that secret (4.1), and the feed is that vault's (7.1), record by record.
func TestVaultOfTheSecret(t *testing.T) {
	for _, secret := range []string{secret, strings.Repeat("\xff", 16)} {
		s := mustNew(t, secret)
		v, err := vault.New(secret)
		if err != nil {
			t.Fatal(err)
		}
		f, err := feed.New(v)
		if err != nil {
			t.Fatal(err)
		}
		for _, e := range []api.Event{put("ann", "t", "r", "v"), put("bob", "t", "s", ""), del("ann", "t", "r"), gone("ann"), put("ann", "t", "r", longest), gone("bob"), put("bob", "t", "s", "x")} {
			want, err := f.Tell(e)
			if err != nil {
				t.Fatal(err)
			}
			if r, err := s.Do(e); r != want || err != nil {
				t.Errorf("Do(%+v): %+v, %v, want %+v", e, r, err, want)
			}
			if got := s.Feed(); !slices.Equal(got, f.Records()) {
				t.Errorf("Feed behind %+v: %+v, want %+v", e, got, f.Records())
			}
			if got, want := s.Vault().Subjects(), v.Subjects(); !slices.Equal(got, want) {
				t.Errorf("Subjects behind %+v: %q, want %q", e, got, want)
			}
			_, one, _ := s.Vault().Make("zoe")
			_, two, _ := v.Make("zoe")
			if one != two {
				t.Errorf("another key than a vault of that secret has: %x, want %x", one, two)
			}
		}
	}
}

// TestPut (8.1): a new row, and the subject's own; another one's is ErrFalse.
func TestPut(t *testing.T) {
	s := mustNew(t, secret)
	do(t, s, put("ann", "mail", "box", "a b"))
	wantCells(t, s, cell("mail", "box", "ann", "a b"))
	do(t, s, put("ann", "mail", "box", ""), put("ann", "mail", "box", longest), put("ann", "mail", "box", longest))
	wantCells(t, s, cell("mail", "box", "ann", longest))
	for _, value := range []string{"", longest, "new"} {
		wantNoDo(t, s, put("bob", "mail", "box", value), api.ErrFalse)
		wantNoDo(t, s, put("an", "mail", "box", value), api.ErrFalse)
	}
	do(t, s, put("bob", "mail", "box2", "x"), put("bob", "box", "mail", "y"), put("bob", "mai", "lbox", "z"))
	wantCells(t, s, cell("box", "mail", "bob", "y"), cell("mai", "lbox", "bob", "z"), cell("mail", "box", "ann", longest), cell("mail", "box2", "bob", "x"))
	wantNoDo(t, s, put("ann", "mail", "box2", "x"), api.ErrFalse)
	wantSubjects(t, s, "ann", "bob")
}

// TestDel (8.1): its own row; another one's, or one that is not there, is ErrMissing.
func TestDel(t *testing.T) {
	s, want := filled(t)
	for _, e := range []api.Event{del("bob", "t", "r"), del("ann", "t", "s"), del("an", "t", "r"), del("annn", "t", "r"), del("new", "t", "r"), del("ann", "t", "q"), del("ann", "x", "r"), del("ann", "r", "t"), del("new", "x", "y")} {
		wantNoDo(t, s, e, api.ErrMissing)
	}
	wantCells(t, s, want...)
	do(t, s, del("ann", "t", "r"))
	wantCells(t, s, want[1:]...)
	wantNoDo(t, s, del("ann", "t", "r"), api.ErrMissing)
	wantNoDo(t, s, del("bob", "t", "r"), api.ErrMissing)
	do(t, s, del("ann", "u", "s"), del("bob", "u", "r"), del("bob", "t", "s"))
	wantCells(t, s)
	wantSubjects(t, s, "ann", "bob")
	wantNoDo(t, mustNew(t, secret), del("ann", "t", "r"), api.ErrMissing)
}

// TestGone (8.1): of who has rows, nothing of it is left; of who has a key and no rows; of who has no key it is ErrNone.
func TestGone(t *testing.T) {
	s, want := filled(t)
	wantNoDo(t, s, gone("new"), api.ErrNone)
	wantNoDo(t, s, gone("an"), api.ErrNone)
	do(t, s, gone("ann"))
	wantCells(t, s, want[1], want[2])
	wantSubjects(t, s, "bob")
	wantNoDo(t, s, gone("ann"), api.ErrNone)
	do(t, s, del("bob", "u", "r"), del("bob", "t", "s"), gone("bob"))
	wantCells(t, s)
	wantSubjects(t, s)
	wantNoDo(t, s, gone("bob"), api.ErrNone)
	wantNoDo(t, mustNew(t, secret), gone("ann"), api.ErrNone)
}

// TestRowOfWhoLeft (8.1): a row whose owner took it away, or was forgotten, may be anybody's.
func TestRowOfWhoLeft(t *testing.T) {
	s, want := filled(t)
	do(t, s, del("ann", "t", "r"), put("bob", "t", "r", "b"))
	wantCells(t, s, cell("t", "r", "bob", "b"), want[1], want[2], want[3])
	wantNoDo(t, s, put("ann", "t", "r", "a"), api.ErrFalse)
	wantNoDo(t, s, del("ann", "t", "r"), api.ErrMissing)
	do(t, s, gone("bob"), put("ann", "t", "r", "a"), put("eve", "t", "s", "e"))
	wantCells(t, s, cell("t", "r", "ann", "a"), cell("t", "s", "eve", "e"), want[3])
	wantNoDo(t, s, put("bob", "t", "r", "b"), api.ErrFalse)
	wantNoDo(t, s, put("bob", "t", "s", "b"), api.ErrFalse)
	do(t, s, gone("ann"), put("ann", "t", "r", "again"))
	wantCells(t, s, cell("t", "r", "ann", "again"), cell("t", "s", "eve", "e"))
	do(t, s, put("bob", "u", "s", "b"))
	if l := s.Feed(); l[len(l)-2].Gen != 2 || l[len(l)-1].Gen != 2 {
		t.Errorf("keys behind a Gone: %+v", l[len(l)-2:])
	}
}

// wrongCases are events that may not be, and what filled answers: whose the row is is told ahead of that.
var wrongCases = []struct {
	e    api.Event
	want api.Errno
}{
	{api.Event{}, api.ErrArg},
	{api.Event{Kind: api.Put}, api.ErrArg}, {api.Event{Kind: api.Gone}, api.ErrArg}, {api.Event{Kind: api.Del}, api.ErrMissing},
	{api.Event{Kind: 4, Subject: "ann"}, api.ErrArg}, {api.Event{Kind: -1, Subject: "ann"}, api.ErrArg}, {api.Event{Kind: math.MaxInt, Subject: "ann"}, api.ErrArg},
	{api.Event{Kind: 4, Subject: "bob", Table: "t", Row: "r"}, api.ErrArg}, {api.Event{Kind: 0, Subject: "bob", Table: "t", Row: "r", Value: "v"}, api.ErrArg}, {api.Event{Kind: 257, Subject: "bob", Table: "t", Row: "r"}, api.ErrArg}, {api.Event{Kind: 258, Subject: "bob", Table: "t", Row: "q"}, api.ErrArg},
	{put("", "t", "q", "v"), api.ErrArg}, {put("", "t", "r", "v"), api.ErrFalse},
	{put("Ann", "t", "q", "v"), api.ErrArg}, {put("Ann", "t", "r", "v"), api.ErrFalse}, {put("ann ", "t", "r", "v"), api.ErrFalse}, {put(strings.Repeat("a", 70_000), "t", "r", "v"), api.ErrFalse},
	{put("ann", "", "r", "v"), api.ErrArg}, {put("ann", "t", "", "v"), api.ErrArg}, {put("new", "T", "r", "v"), api.ErrArg}, {put("new", "t", "r ", "v"), api.ErrArg},
	{put("ann", "t", "r", longest+"u"), api.ErrArg}, {put("bob", "t", "r", longest+"u"), api.ErrFalse}, {put("new", "t", "q", longest+"u"), api.ErrArg},
	{put("ann", "t", "r", "\x7f"), api.ErrArg}, {put("bob", "t", "r", "\x7f"), api.ErrFalse}, {put("ann", "t", "q", "\x1f"), api.ErrArg}, {put("ann", "t", "r", strings.Repeat("v", 70_000)), api.ErrArg},
	{del("", "t", "r"), api.ErrMissing}, {del("Ann", "t", "r"), api.ErrMissing}, {del("ann", "", "r"), api.ErrMissing}, {del("ann", "t", "R"), api.ErrMissing},
	{api.Event{Kind: api.Del, Subject: "ann", Table: "t", Row: "r", Value: "v"}, api.ErrArg}, {api.Event{Kind: api.Del, Subject: "bob", Table: "t", Row: "r", Value: "v"}, api.ErrMissing}, {api.Event{Kind: api.Del, Subject: "ann", Table: "t", Row: "q", Value: "v"}, api.ErrMissing},
	{gone(""), api.ErrArg}, {gone("Ann"), api.ErrArg}, {gone("1"), api.ErrArg},
	{api.Event{Kind: api.Gone, Subject: "ann", Table: "t"}, api.ErrArg}, {api.Event{Kind: api.Gone, Subject: "ann", Row: "r"}, api.ErrArg}, {api.Event{Kind: api.Gone, Subject: "ann", Value: "v"}, api.ErrArg},
	{api.Event{Kind: api.Gone, Subject: "bob", Table: "t", Row: "r"}, api.ErrArg}, {api.Event{Kind: api.Gone, Subject: "new", Table: "x", Row: "y"}, api.ErrArg},
}

// TestWrongEvents (8.1, P3): the one told first is answered.
func TestWrongEvents(t *testing.T) {
	s, want := filled(t)
	for range 2 {
		for _, c := range wrongCases {
			wantNoDo(t, s, c.e, c.want)
		}
	}
	wantCells(t, s, want...)
	if n := len(s.Feed()); n != 4 {
		t.Errorf("%d records, want 4", n)
	}
}

// TestFull (8.1): no more than MaxFeed; whose the row is, and what may not be, is told ahead of that, and that ahead of who has no key.
func TestFull(t *testing.T) {
	s, want := filled(t)
	for range api.MaxFeed - len(s.Feed()) {
		do(t, s, put("ann", "t", "r", "v"))
	}
	for range 2 {
		for _, c := range wrongCases {
			wantNoDo(t, s, c.e, c.want)
		}
		for _, e := range []api.Event{put("ann", "t", "r", "new"), put("ann", "t", "q", "v"), put("new", "x", "y", "v"), del("ann", "t", "r"), gone("ann"), gone("new")} {
			wantNoDo(t, s, e, api.ErrFull)
		}
		for _, e := range []api.Event{put("bob", "t", "r", "v"), put("new", "t", "r", "v")} {
			wantNoDo(t, s, e, api.ErrFalse)
		}
		for _, e := range []api.Event{del("bob", "t", "r"), del("ann", "t", "q"), del("new", "x", "y")} {
			wantNoDo(t, s, e, api.ErrMissing)
		}
	}
	wantCells(t, s, want...)
	if l := s.Feed(); len(l) != 100 || l[99].Seq != 100 {
		t.Errorf("%d records", len(l))
	}
}

// TestFreshMemory (P4): what a caller writes into an answer changes nothing, nor does what happens later change an answer.
func TestFreshMemory(t *testing.T) {
	s, want := filled(t)
	records, cells := s.Feed(), s.Cells()
	again, rows := s.Feed(), s.Cells()
	for i := range records {
		records[i] = api.Record{Seq: 9}
	}
	for i := range cells {
		cells[i] = cell("x", "x", "x", "x")
	}
	_ = append(s.Feed()[:1], api.Record{Seq: 9})
	_ = append(s.Cells()[:1], cell("x", "x", "x", "x"))
	wantCells(t, s, want...)
	if !slices.Equal(s.Feed(), again) || !slices.Equal(rows, want) {
		t.Errorf("what is written into an answer is read in another: %+v, %+v", again, rows)
	}
	do(t, s, put("ann", "a", "a", "a"), gone("bob"))
	if len(again) != 4 || again[0].Seq != 1 || !slices.Equal(rows, want) {
		t.Errorf("what happened later is read in an answer: %+v, %+v", again, rows)
	}
	do(t, s, put("ann", "a", "b", "b"))
}

// TestVault (8.1, P1): it is the source's own: its records are opened by it, and what is forgotten is forgotten there.
func TestVault(t *testing.T) {
	s := mustNew(t, secret)
	v := s.Vault()
	if v == nil || s.Vault() != v {
		t.Fatal("two vaults of one source")
	}
	events := []api.Event{put("ann", "t", "r", "v"), put("bob", "t", "s", "w"), del("ann", "t", "r"), put("ann", "t", "q", "x")}
	do(t, s, events...)
	for i, r := range s.Feed() {
		if e, err := feed.Open(v, r); e != events[i] || err != nil {
			t.Errorf("Open of record %d: %+v, %v, want %+v", i, e, err, events[i])
		}
	}
	do(t, s, gone("ann"), put("ann", "t", "q", "y"))
	wants := []api.Errno{api.ErrNone, api.OK, api.ErrNone, api.ErrNone, api.OK, api.OK}
	for i, r := range s.Feed() {
		_, err := feed.Open(v, r)
		wantErrno(t, fmt.Sprint("Open of record ", i), err, wants[i])
	}
	if n, ok := feed.Whole(s.Feed(), 1, feed.None); n != 0 || !ok {
		t.Errorf("Whole: %d, %v", n, ok)
	}
	wantErrno(t, "Forget", v.Forget("bob"), api.OK)
	wantNoDo(t, s, gone("bob"), api.ErrNone)
	wantCells(t, s, cell("t", "q", "ann", "y"), cell("t", "s", "bob", "w"))
	do(t, s, put("bob", "t", "s", "z"))
	if l := s.Feed(); l[len(l)-1].Gen != 2 {
		t.Errorf("a key behind Forget: %+v", l[len(l)-1])
	}
}

// TestTwoSources (P4): what is done to one is nothing to another one of the same secret.
func TestTwoSources(t *testing.T) {
	a, b := mustNew(t, secret), mustNew(t, secret)
	do(t, a, put("ann", "t", "r", "1"))
	wantCells(t, b)
	wantSubjects(t, b)
	do(t, b, put("bob", "t", "r", "2"), put("ann", "t", "s", "3"))
	do(t, a, gone("ann"))
	wantCells(t, a)
	wantCells(t, b, cell("t", "r", "bob", "2"), cell("t", "s", "ann", "3"))
	wantSubjects(t, b, "ann", "bob")
}

// TestNoVault (P1): a source that nobody made, or that is nil, has nothing to tell by: no call panics, and nothing ever happens.
func TestNoVault(t *testing.T) {
	made, _ := New("")
	for _, s := range []*Source{{}, nil, made} {
		for range 2 {
			if s.Vault() != nil || len(s.Feed()) != 0 || len(s.Cells()) != 0 {
				t.Errorf("Vault, Feed, Cells: %v, %+v, %+v", s.Vault(), s.Feed(), s.Cells())
			}
			wantNoDo(t, s, api.Event{}, api.ErrArg)
			wantNoDo(t, s, put("Ann", "t", "r", "v"), api.ErrArg)
			wantNoDo(t, s, put("ann", "t", "r", "v"), api.ErrMissing)
			wantNoDo(t, s, del("ann", "t", "r"), api.ErrMissing)
			wantNoDo(t, s, gone("ann"), api.ErrNone)
		}
	}
}

// happened: the events that were done; all that a source tells hangs on them, and is told from them apart from the program.
type happened []api.Event

// owner is whose a row is, and its value: the last one who Put it, unless its Del or its Gone stands behind that.
func (l happened) owner(table, row string) (api.Cell, bool) {
	for i := len(l) - 1; i >= 0; i-- {
		e := l[i]
		if e.Kind == api.Put && e.Table == table && e.Row == row {
			left := slices.Contains(l[i:], del(e.Subject, table, row)) || slices.Contains(l[i:], gone(e.Subject))
			return cell(table, row, e.Subject, e.Value), !left
		}
	}
	return api.Cell{}, false
}

// gen is which key a subject has, and whether it has one: one more than it had Gones, if anything stands behind the last one.
func (l happened) gen(subject string) (int, bool) {
	n, has := 1, false
	for _, e := range l {
		switch {
		case e == gone(subject):
			n, has = n+1, false
		case e.Subject == subject:
			has = true
		}
	}
	return n, has
}

// refuses is what 8.1 answers.
func (l happened) refuses(e api.Event) api.Errno {
	c, there := l.owner(e.Table, e.Row)
	_, has := l.gen(e.Subject)
	switch {
	case e.Kind == api.Put && there && c.Subject != e.Subject:
		return api.ErrFalse
	case e.Kind == api.Del && (!there || c.Subject != e.Subject):
		return api.ErrMissing
	case !event.Right(e):
		return api.ErrArg
	case len(l) == 100:
		return api.ErrFull
	case e.Kind == api.Gone && !has:
		return api.ErrNone
	}
	return api.OK
}

func (l happened) cells() []api.Cell {
	var out []api.Cell
	seen := map[[2]string]bool{}
	for _, e := range l {
		if at := [2]string{e.Table, e.Row}; e.Kind == api.Put && !seen[at] {
			seen[at] = true
			if c, ok := l.owner(e.Table, e.Row); ok {
				out = append(out, c)
			}
		}
	}
	sort.Slice(out, func(i, j int) bool {
		if out[i].Table != out[j].Table {
			return out[i].Table < out[j].Table
		}
		return out[i].Row < out[j].Row
	})
	return out
}

// subjects have a key.
func (l happened) subjects() []string {
	var out []string
	for _, e := range l {
		if _, has := l.gen(e.Subject); has && !slices.Contains(out, e.Subject) {
			out = append(out, e.Subject)
		}
	}
	sort.Strings(out)
	return out
}

// step does an event, and holds all that the source tells against what happened.
func step(t *testing.T, s *Source, l happened, e api.Event) happened {
	t.Helper()
	if want := l.refuses(e); want != api.OK {
		wantNoDo(t, s, e, want)
		return l
	}
	do(t, s, e)
	l = append(l[:len(l):len(l)], e)
	wantCells(t, s, l.cells()...)
	wantSubjects(t, s, l.subjects()...)
	records := s.Feed()
	if len(records) != len(l) {
		t.Fatalf("%d records of %d events", len(records), len(l))
	}
	want, _ := l.gen(e.Subject)
	if e.Kind == api.Gone {
		want = 0
	}
	if r := records[len(l)-1]; r.Gen != want {
		t.Errorf("Do(%+v): Gen %d, want %d", e, r.Gen, want)
	}
	if got, err := feed.Open(s.Vault(), records[len(l)-1]); got != e || err != nil {
		t.Errorf("Open of the record of %+v: %+v, %v", e, got, err)
	}
	return l
}

// TestShortHistories (8.1): each history of up to four events of a few.
func TestShortHistories(t *testing.T) {
	events := []api.Event{
		put("ann", "t", "r", "1"), put("bob", "t", "r", "2"), put("bob", "u", "r", ""),
		del("ann", "t", "r"), del("bob", "t", "r"), del("bob", "u", "r"),
		gone("ann"), gone("bob"), put("Ann", "t", "r", "v"), {Kind: api.Del, Subject: "ann", Table: "t", Row: "r", Value: "v"},
	}
	var grow func(asked []api.Event)
	grow = func(asked []api.Event) {
		if len(asked) == 4 {
			s, l := mustNew(t, secret), happened(nil)
			for _, e := range asked {
				l = step(t, s, l, e)
			}
			return
		}
		for _, e := range events {
			grow(append(asked[:len(asked):len(asked)], e))
		}
	}
	grow(nil)
}

// draw: numbers that look drawn, the same each time.
type draw uint64

func (d *draw) below(most int) int {
	*d = *d*6364136223846793005 + 1442695040888963407
	return int(uint64(*d>>33) % uint64(most))
}

func (d *draw) of(l ...string) string {
	return l[d.below(len(l))]
}

func drawnEvent(d *draw) api.Event {
	if d.below(12) == 0 {
		return wrongCases[d.below(len(wrongCases))].e
	}
	subject, table, row := d.of("ann", "bob", "eve"), d.of("t", "u"), d.of("r", "s", "q", "tr")
	switch d.below(16) {
	case 0:
		return gone(subject)
	case 1, 2, 3, 4:
		return del(subject, table, row)
	}
	return put(subject, table, row, d.of("", " ", "v", "a b", longest))
}

// TestDrawnHistories (8.1): long ones, some of them longer than a feed may be.
func TestDrawnHistories(t *testing.T) {
	d := draw(8)
	for range 12 {
		s, l := mustNew(t, secret), happened(nil)
		for range d.below(330) {
			l = step(t, s, l, drawnEvent(&d))
		}
		if n, ok := feed.Whole(s.Feed(), 1, feed.None); n != 0 || !ok {
			t.Errorf("Whole: %d, %v", n, ok)
		}
	}
}

// TestSameAgain (P4): an answer hangs on the calls on its own source alone, whoever else asks others meanwhile.
func TestSameAgain(t *testing.T) {
	run := func() string {
		s, _ := New(secret)
		d := draw(9)
		told := ""
		for range 80 {
			r, err := s.Do(drawnEvent(&d))
			told += fmt.Sprint(r, api.Tell(err), s.Cells())
		}
		return told + all(s)
	}
	want := run()
	got := make([]string, 8)
	var w sync.WaitGroup
	for i := range got {
		w.Go(func() { got[i] = run() })
	}
	w.Wait()
	for i, g := range got {
		if g != want {
			t.Errorf("run again (%d), it tells something else", i)
		}
	}
}
