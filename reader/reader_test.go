package reader

import (
	"crypto/sha256"
	"encoding/binary"
	"errors"
	"fmt"
	"math"
	"slices"
	"strings"
	"sync"
	"testing"

	"oubliette/api"
	"oubliette/feed"
	"oubliette/source"
	"oubliette/vault"
)

const (
	secret  = "0123456789abcdef"
	none    = "\x00\x00\x00\x00\x00\x00\x00\x00\x00\x00\x00\x00\x00\x00\x00\x00"
	longest = "abcdefghijklmnopqrst" // a value of MaxValue bytes
)

func put(subject, table, row, value string) api.Event {
	return api.Event{Kind: api.Put, Subject: subject, Table: table, Row: row, Value: value}
}

func del(subject, table, row string) api.Event {
	return api.Event{Kind: api.Del, Subject: subject, Table: table, Row: row}
}

func gone(subject string) api.Event {
	return api.Event{Kind: api.Gone, Subject: subject}
}

func cell(table, row, subject, value string) api.Cell {
	return api.Cell{Table: table, Row: row, Subject: subject, Value: value}
}

// markApart is a record's mark (7.1), told apart from the program.
func markApart(r api.Record) string {
	num := func(n int) string { return string(binary.BigEndian.AppendUint64(nil, uint64(n))) }
	text := "r"
	for _, part := range []string{num(r.Seq), r.Subject, num(r.Gen), r.Prev, r.Body} {
		text += num(len(part)) + part
	}
	h := sha256.Sum256([]byte(text))
	return string(h[:16])
}

func mustVault(t *testing.T, secret string) *vault.Vault {
	t.Helper()
	v, err := vault.New(secret)
	if err != nil {
		t.Fatal(err)
	}
	return v
}

func mustSource(t *testing.T, events ...api.Event) *source.Source {
	t.Helper()
	s, err := source.New(secret)
	if err != nil {
		t.Fatal(err)
	}
	do(t, s, events...)
	return s
}

func do(t *testing.T, s *source.Source, events ...api.Event) {
	t.Helper()
	for _, e := range events {
		if _, err := s.Do(e); err != nil {
			t.Fatalf("Do(%+v): %v", e, err)
		}
	}
}

func mustNew(t *testing.T, v *vault.Vault) *Reader {
	t.Helper()
	r, err := New(v)
	if r == nil || err != nil {
		t.Fatalf("New: %v, %v", r, err)
	}
	return r
}

// wantErrno: that error, without a place (P3).
func wantErrno(t *testing.T, what string, err error, want api.Errno) {
	t.Helper()
	if api.Tell(err) != want {
		t.Errorf("%.200q: %v, want %v", what, err, want)
	}
	var at *api.At
	if errors.As(err, &at) {
		t.Errorf("%.200q: the error has a place, %d", what, at.Place)
	}
}

// all is what a reader tells.
func all(r *Reader) string {
	n, mark := r.At()
	return fmt.Sprintf("%d %q %d %q", n, mark, r.Lost(), fmt.Sprint(r.Cells()))
}

// held is what a vault has of those whom the tests name: a reader changes nothing of it.
func held(v *vault.Vault) string {
	told := fmt.Sprintf("%q", v.Subjects())
	for _, subject := range []string{"ann", "bob", "cid", "eve", "new", "Ann", ""} {
		for gen := range 5 {
			k, err := v.Key(subject, gen)
			told += fmt.Sprintf(" %s %d %x %d", subject, gen, k, api.Tell(err))
		}
	}
	return told
}

func wantAt(t *testing.T, r *Reader, read int, mark string, lost int) {
	t.Helper()
	if n, m := r.At(); n != read || m != mark {
		t.Errorf("At: %d, %x, want %d, %x", n, m, read, mark)
	}
	if n := r.Lost(); n != lost {
		t.Errorf("Lost: %d, want %d", n, lost)
	}
}

func wantCells(t *testing.T, r *Reader, want ...api.Cell) {
	t.Helper()
	if got := r.Cells(); !slices.Equal(got, want) {
		t.Errorf("Cells: %+v, want %+v", got, want)
	}
}

// wantRead: it is read (one more, or, with lost, one more LOST), and its mark is the reader's.
func wantRead(t *testing.T, r *Reader, x api.Record, lost int) {
	t.Helper()
	n, _ := r.At()
	before, rows := r.Lost(), r.Cells()
	if err := r.Read(x); err != nil {
		t.Errorf("Read(%.200q): %v", fmt.Sprint(x), err)
		return
	}
	wantAt(t, r, n+1, markApart(x), before+lost)
	if lost == 1 && !slices.Equal(r.Cells(), rows) {
		t.Errorf("Read of what is LOST: rows %+v, before %+v", r.Cells(), rows)
	}
}

// wantNothing: that error (or none), and nothing is changed.
func wantNothing(t *testing.T, r *Reader, x api.Record, want api.Errno) {
	t.Helper()
	before := all(r)
	wantErrno(t, fmt.Sprintf("Read(%+v)", x), r.Read(x), want)
	if got := all(r); got != before {
		t.Errorf("Read(%.200q), want %v and nothing: it has %s, before %s", fmt.Sprint(x), want, got, before)
	}
}

// readAll reads what nobody has forgotten.
func readAll(t *testing.T, r *Reader, l []api.Record) {
	t.Helper()
	for _, x := range l {
		wantRead(t, r, x, 0)
	}
}

// some events of three subjects; cid is forgotten.
func some() []api.Event {
	return []api.Event{put("ann", "t", "r", "v"), put("bob", "t", "s", ""), put("cid", "u", "r", "a b"), del("ann", "t", "r"), gone("cid"), put("ann", "u", "s", longest), put("bob", "t", "r", "w")}
}

// wantSome are the rows behind each of some's events, of who is not late.
func wantSome() [][]api.Cell {
	ann, bob, cid := cell("t", "r", "ann", "v"), cell("t", "s", "bob", ""), cell("u", "r", "cid", "a b")
	later, latest := cell("u", "s", "ann", longest), cell("t", "r", "bob", "w")
	return [][]api.Cell{{ann}, {ann, bob}, {ann, bob, cid}, {bob, cid}, {bob}, {bob, later}, {latest, bob, later}}
}

// variants are texts that are nearly that one, and some that are not.
func variants(s string) []string {
	out := []string{"", none, s + "\x00", "\x00" + s, s + s, strings.Repeat("x", len(s)), strings.Repeat("x", 70_000)}
	for i := range len(s) {
		b := []byte(s)
		b[i] ^= 1
		out = append(out, string(b), s[:i], s[i+1:])
	}
	return slices.DeleteFunc(out, func(v string) bool { return v == s })
}

// TestNew (9.1): of no vault, and of one: empty, with keys, of no secret.
func TestNew(t *testing.T) {
	r, err := New(nil)
	if r != nil {
		t.Errorf("New(nil): a reader beside %v", err)
	}
	wantErrno(t, "New(nil)", err, api.ErrMissing)
	for _, v := range []*vault.Vault{mustVault(t, secret), mustSource(t, some()...).Vault(), {}} {
		before := held(v)
		r := mustNew(t, v)
		wantAt(t, r, 0, none, 0)
		wantCells(t, r)
		if held(v) != before {
			t.Error("New changes the vault")
		}
	}
}

// TestFollow (9.1): who follows has what there is, behind each record.
func TestFollow(t *testing.T) {
	s := mustSource(t)
	r := mustNew(t, s.Vault())
	for i, e := range some() {
		do(t, s, e)
		before := held(s.Vault())
		wantRead(t, r, s.Feed()[i], 0)
		wantCells(t, r, wantSome()[i]...)
		wantCells(t, r, s.Cells()...)
		if held(s.Vault()) != before {
			t.Errorf("Read of record %d changes the vault", i+1)
		}
	}
}

// TestLate (9.1): who comes late has what is left: of cid, who is forgotten, nothing, and one is LOST.
func TestLate(t *testing.T) {
	s := mustSource(t, some()...)
	r := mustNew(t, s.Vault())
	left := wantSome()
	left[2], left[3] = left[1], left[4]
	for i, x := range s.Feed() {
		lost := 0
		if i == 2 {
			lost = 1
		}
		wantRead(t, r, x, lost)
		wantCells(t, r, left[i]...)
	}
	if r.Lost() != 1 {
		t.Errorf("Lost: %d, want 1", r.Lost())
	}
}

// TestReadAgain (9.1): of a Seq that it has read nothing, whatever the record is.
func TestReadAgain(t *testing.T) {
	s := mustSource(t, some()...)
	other := mustSource(t, put("eve", "x", "y", "z"), gone("eve"), put("ann", "x", "y", "z"), put("bob", "x", "z", ""), del("ann", "x", "y"), gone("ann"), gone("bob")).Feed()
	r := mustNew(t, s.Vault())
	for i, x := range s.Feed() {
		if err := r.Read(x); err != nil {
			t.Fatalf("Read(%+v): %v", x, err)
		}
		for j := range i + 1 {
			known := s.Feed()[j]
			wantNothing(t, r, known, api.OK)
			wantNothing(t, r, other[j], api.OK)
			for _, c := range []api.Record{
				{Seq: j + 1},
				{Seq: j + 1, Subject: "ann", Body: "gone ann"},
				{Seq: j + 1, Subject: "bob", Body: "gone bob", Prev: known.Prev},
				{Seq: j + 1, Subject: known.Subject, Gen: known.Gen + 7, Prev: known.Prev, Body: known.Body},
				{Seq: j + 1, Subject: known.Subject, Gen: known.Gen, Prev: "x", Body: known.Body},
				{Seq: j + 1, Subject: known.Subject, Gen: known.Gen, Prev: known.Prev, Body: known.Body + "x"},
			} {
				wantNothing(t, r, c, api.OK)
			}
		}
	}
}

// TestOrder (9.1): 0, below it, more than one more: ErrOrder, ahead of all else that is wrong; also of what is forgotten.
func TestOrder(t *testing.T) {
	s := mustSource(t, some()...)
	r := mustNew(t, s.Vault())
	l := s.Feed()
	for i := range len(l) + 1 {
		_, mark := r.At()
		for _, seq := range []int{0, -1, -2, -i, -i - 1, math.MinInt, math.MinInt + 1, i + 2, i + 3, i + 1 + 256, i + 1 + 1<<32, math.MaxInt - 1, math.MaxInt} {
			if seq >= 1 && seq <= i {
				continue
			}
			for _, x := range []api.Record{{}, l[min(i, len(l)-1)], l[2], l[4], {Subject: "bob", Prev: mark, Body: "gone bob"}, {Subject: "bob", Prev: "x", Body: "gone bob"}, {Subject: "ann", Gen: 9, Prev: mark}} {
				x.Seq = seq
				wantNothing(t, r, x, api.ErrOrder)
			}
		}
		for j := i + 1; j < len(l); j++ {
			wantNothing(t, r, l[j], api.ErrOrder)
		}
		if i < len(l) {
			if err := r.Read(l[i]); err != nil {
				t.Fatalf("Read(%+v): %v", l[i], err)
			}
		}
	}
}

// TestPrev (9.1): the next one with another Prev is ErrSpoilt, ahead of what Open tells; also of what is forgotten, and of an open one.
func TestPrev(t *testing.T) {
	s := mustSource(t, some()...)
	r := mustNew(t, s.Vault())
	for i, x := range s.Feed() {
		others := append(variants(x.Prev), markApart(x))
		if i > 0 {
			others = append(others, s.Feed()[i-1].Prev)
		}
		for _, prev := range others {
			for _, c := range []api.Record{x, {Subject: "ann", Gen: 9}, {Subject: "new", Gen: 1}, {Subject: "cid", Gen: 1}, {Subject: "bob", Body: "gone bob"}, {Subject: "ann", Gen: 1, Body: x.Body}} {
				c.Seq, c.Prev = i+1, prev
				if prev != x.Prev {
					wantNothing(t, r, c, api.ErrSpoilt)
				}
			}
		}
		if err := r.Read(x); err != nil {
			t.Fatalf("Read(%+v): %v", x, err)
		}
	}
}

// TestOpenErrors (9.1): the next one, with its Prev, and another Subject, Gen or Body: Open's error, or LOST where that key is forgotten.
func TestOpenErrors(t *testing.T) {
	s := mustSource(t, some()...)
	do(t, s, put("eve", "x", "y", "z"), gone("eve"), put("eve", "x", "y", "z"))
	l := s.Feed()
	ahead := mustNew(t, s.Vault())
	for _, x := range l {
		at := ahead.Save()
		ask := func(c api.Record, want api.Errno) {
			t.Helper()
			r, err := Load(s.Vault(), at)
			if err != nil {
				t.Fatal(err)
			}
			if want == api.ErrNone {
				wantRead(t, r, c, 1)
			} else {
				wantNothing(t, r, c, want)
			}
		}
		for _, gen := range []int{-1, x.Gen + 3, x.Gen + 256, x.Gen + 1<<32, math.MinInt, math.MaxInt} {
			c := x
			c.Gen = gen
			ask(c, api.ErrMissing)
		}
		for subject, wants := range map[string][3]api.Errno{
			"new": {api.ErrSpoilt, api.ErrMissing, api.ErrMissing}, "": {api.ErrSpoilt, api.ErrMissing, api.ErrMissing}, "Ann": {api.ErrSpoilt, api.ErrMissing, api.ErrMissing},
			"cid": {api.ErrSpoilt, api.ErrNone, api.ErrMissing}, "eve": {api.ErrSpoilt, api.ErrNone, api.ErrSpoilt},
			"ann": {api.ErrSpoilt, api.ErrSpoilt, api.ErrMissing}, "bob": {api.ErrSpoilt, api.ErrSpoilt, api.ErrMissing},
		} {
			for gen, want := range wants {
				c := x
				c.Subject, c.Gen = subject, gen
				if c != x {
					ask(c, want)
				}
			}
		}
		for _, body := range append(variants(x.Body), "put "+x.Subject+" t r v", "gone", "gone "+x.Subject+" ", "gone new", "gone an") {
			c := x
			c.Body = body
			want := api.ErrSpoilt
			if x.Gen == 1 && (x.Subject == "cid" || x.Subject == "eve") {
				want = api.ErrNone
			}
			ask(c, want)
		}
		for _, c := range []api.Record{{Seq: x.Seq, Prev: x.Prev}, {Seq: x.Seq, Subject: x.Subject, Prev: x.Prev}, {Seq: x.Seq, Subject: x.Subject, Prev: x.Prev, Body: "put " + x.Subject + " t r v"}, {Seq: x.Seq, Subject: "bob", Prev: x.Prev, Body: "gone ann"}, {Seq: x.Seq, Subject: "ann", Prev: x.Prev, Body: "del ann t r"}} {
			ask(c, api.ErrSpoilt)
		}
		if err := ahead.Read(x); err != nil {
			t.Fatalf("Read(%+v): %v", x, err)
		}
	}
}

// TestErrorsThenOn (9.1): who is lied to notices, and goes on with what is true.
func TestErrorsThenOn(t *testing.T) {
	s := mustSource(t)
	r := mustNew(t, s.Vault())
	for i, e := range some() {
		do(t, s, e)
		x := s.Feed()[i]
		for range 2 {
			c := x
			c.Body += "x"
			wantNothing(t, r, c, api.ErrSpoilt)
			c = x
			c.Prev = "x" + c.Prev[1:]
			wantNothing(t, r, c, api.ErrSpoilt)
			c = x
			c.Gen += 2
			wantNothing(t, r, c, api.ErrMissing)
			c = x
			c.Seq++
			wantNothing(t, r, c, api.ErrOrder)
		}
		wantRead(t, r, x, 0)
		wantCells(t, r, wantSome()[i]...)
	}
}

// TestLostChanged (9.1): nobody can tell whether what is forgotten was changed; the one behind it tells.
func TestLostChanged(t *testing.T) {
	s := mustSource(t, some()...)
	l := s.Feed()
	for _, body := range variants(l[2].Body) {
		r := mustNew(t, s.Vault())
		readAll(t, r, l[:2])
		c := l[2]
		c.Body = body
		wantRead(t, r, c, 1)
		wantNothing(t, r, l[2], api.OK)
		wantNothing(t, r, l[3], api.ErrSpoilt)
		wantAt(t, r, 3, markApart(c), 1)
	}
}

// TestAllLost (9.1): each one of a forgotten subject is LOST for itself, also behind a new key; which one it has now is read.
func TestAllLost(t *testing.T) {
	s := mustSource(t, put("ann", "t", "r", "1"), put("ann", "t", "s", "2"), del("ann", "t", "r"), gone("ann"), put("ann", "t", "r", "3"), gone("ann"), put("ann", "t", "q", "4"))
	r := mustNew(t, s.Vault())
	for i, lost := range []int{1, 1, 1, 0, 1, 0, 0} {
		wantRead(t, r, s.Feed()[i], lost)
	}
	wantCells(t, r, cell("t", "q", "ann", "4"))
	wantAt(t, r, 7, markApart(s.Feed()[6]), 4)
}

// TestGone (9.1): behind a Gone the subject's rows are gone, in each table, and no other one's.
func TestGone(t *testing.T) {
	s := mustSource(t, put("ann", "t", "r", "1"), put("bob", "t", "s", "2"), put("ann", "u", "s", "3"), put("an", "u", "r", "4"), put("annn", "u", "q", "5"))
	r := mustNew(t, s.Vault())
	readAll(t, r, s.Feed())
	do(t, s, gone("ann"))
	wantRead(t, r, s.Feed()[5], 0)
	wantCells(t, r, cell("t", "s", "bob", "2"), cell("u", "q", "annn", "5"), cell("u", "r", "an", "4"))
	do(t, s, put("ann", "t", "r", "6"), gone("bob"), gone("an"), gone("annn"))
	readAll(t, r, s.Feed()[6:])
	wantCells(t, r, cell("t", "r", "ann", "6"))
}

// TestForgottenAhead (9.1): its rows stay until the Gone is read, and what it took away meanwhile is LOST.
func TestForgottenAhead(t *testing.T) {
	s := mustSource(t, put("ann", "t", "r", "1"), put("ann", "t", "s", "2"))
	r := mustNew(t, s.Vault())
	readAll(t, r, s.Feed())
	both := []api.Cell{cell("t", "r", "ann", "1"), cell("t", "s", "ann", "2")}
	do(t, s, del("ann", "t", "r"), put("bob", "t", "r", "3"), gone("ann"))
	wantCells(t, r, both...)
	wantRead(t, r, s.Feed()[2], 1)
	wantCells(t, r, both...)
	wantRead(t, r, s.Feed()[3], 0)
	wantCells(t, r, cell("t", "r", "bob", "3"), both[1])
	if got := r.Save().Rows; !slices.Equal(got, r.Cells()) {
		t.Errorf("Save's Rows: %+v, want %+v", got, r.Cells())
	}
	wantRead(t, r, s.Feed()[4], 0)
	wantCells(t, r, cell("t", "r", "bob", "3"))
}

// TestForgedGone (9.1): a Gone is open, and whoever has the mark may say one: it is read, and the one behind it tells.
func TestForgedGone(t *testing.T) {
	s := mustSource(t, put("ann", "t", "r", "1"), put("bob", "t", "s", "2"), put("ann", "t", "q", "3"))
	l := s.Feed()
	r := mustNew(t, s.Vault())
	readAll(t, r, l[:2])
	forged := api.Record{Seq: 3, Subject: "ann", Prev: l[2].Prev, Body: "gone ann"}
	wantRead(t, r, forged, 0)
	wantCells(t, r, cell("t", "s", "bob", "2"))
	do(t, s, put("bob", "t", "r2", "4"))
	wantNothing(t, r, s.Feed()[3], api.ErrSpoilt)
	if k, err := s.Vault().Key("ann", 1); k == "" || err != nil {
		t.Errorf("Read of a Gone forgets a key: %q, %v", k, err)
	}
}

// TestOthersVault (9.1): by a vault of that secret that has the keys, too; one that never made them has none, and another secret's are others.
func TestOthersVault(t *testing.T) {
	s := mustSource(t, put("ann", "t", "r", "1"), put("bob", "t", "s", "2"))
	same, other := mustVault(t, secret), mustVault(t, "0123456789abcdeF")
	r, q := mustNew(t, same), mustNew(t, other)
	for _, x := range s.Feed() {
		wantNothing(t, r, x, api.ErrMissing)
		if _, _, err := same.Make(x.Subject); err != nil {
			t.Fatal(err)
		}
		wantRead(t, r, x, 0)
	}
	wantCells(t, r, s.Cells()...)
	wantNothing(t, q, s.Feed()[0], api.ErrMissing)
	if _, _, err := other.Make("ann"); err != nil {
		t.Fatal(err)
	}
	wantNothing(t, q, s.Feed()[0], api.ErrSpoilt)
	if err := other.Forget("ann"); err != nil {
		t.Fatal(err)
	}
	wantRead(t, q, s.Feed()[0], 1)
	wantCells(t, q)
}

// TestTwoReaders (P1, P4): two of one vault see what is forgotten there; what one reads is nothing to the other one.
func TestTwoReaders(t *testing.T) {
	s := mustSource(t, put("ann", "t", "r", "1"), put("bob", "t", "s", "2"))
	a, b := mustNew(t, s.Vault()), mustNew(t, s.Vault())
	readAll(t, a, s.Feed())
	wantAt(t, b, 0, none, 0)
	wantCells(t, b)
	if err := s.Vault().Forget("ann"); err != nil {
		t.Fatal(err)
	}
	wantRead(t, b, s.Feed()[0], 1)
	wantRead(t, b, s.Feed()[1], 0)
	wantCells(t, b, cell("t", "s", "bob", "2"))
	wantCells(t, a, cell("t", "r", "ann", "1"), cell("t", "s", "bob", "2"))
	wantAt(t, a, 2, markApart(s.Feed()[1]), 0)
}

// TestCellsInOrder (9.1, P4): by table, then row, in fresh memory.
func TestCellsInOrder(t *testing.T) {
	s := mustSource(t, put("ann", "u", "a", "1"), put("bob", "t", "s", "2"), put("ann", "t", "r", "3"), put("bob", "tt", "a", "4"), put("ann", "t", "r1", "5"), put("ann", "t2", "z", "6"))
	r := mustNew(t, s.Vault())
	readAll(t, r, s.Feed())
	want := []api.Cell{cell("t", "r", "ann", "3"), cell("t", "r1", "ann", "5"), cell("t", "s", "bob", "2"), cell("t2", "z", "ann", "6"), cell("tt", "a", "bob", "4"), cell("u", "a", "ann", "1")}
	wantCells(t, r, want...)
	one, two := r.Cells(), r.Cells()
	for i := range one {
		one[i] = cell("x", "x", "x", "x")
	}
	_ = append(r.Cells()[:1], cell("x", "x", "x", "x"))
	do(t, s, put("ann", "a", "a", "a"), gone("bob"))
	readAll(t, r, s.Feed()[6:])
	if !slices.Equal(two, want) {
		t.Errorf("an answer, written into or read on: %+v, want %+v", two, want)
	}
	wantCells(t, r, cell("a", "a", "ann", "a"), want[0], want[1], want[3], want[5])
}

// TestNoVault (P1): a reader that nobody made, or that is nil, has read nothing; no call panics. What is open is read without a vault, but not by who is not there.
func TestNoVault(t *testing.T) {
	s := mustSource(t, some()...)
	made, _ := New(nil)
	for _, r := range []*Reader{{}, nil, made} {
		for range 2 {
			wantAt(t, r, 0, none, 0)
			wantCells(t, r)
			wantNothing(t, r, s.Feed()[0], api.ErrMissing)
			if v := r.Save(); v.Seq != 0 || v.Mark != none || len(v.Rows) != 0 || v.Lost != 0 {
				t.Errorf("Save: %+v", v)
			}
		}
	}
	var r Reader
	wantNothing(t, &r, s.Feed()[1], api.ErrOrder)
	wantNothing(t, &r, api.Record{Seq: 1}, api.ErrSpoilt)
	wantRead(t, &r, api.Record{Seq: 1, Subject: "ann", Prev: none, Body: "gone ann"}, 0)
	wantNothing(t, made, api.Record{Seq: 1, Subject: "ann", Prev: none, Body: "gone ann"}, api.ErrMissing)
}

// draw: numbers that look drawn, the same each time.
type draw uint64

func (d *draw) below(most int) int {
	*d = *d*6364136223846793005 + 1442695040888963407
	return int(uint64(*d>>33) % uint64(most))
}

func (d *draw) of(l ...string) string {
	return l[d.below(len(l))]
}

// TestSameAgain (P4): an answer hangs on the calls on its own reader and its vault alone, whoever else asks others meanwhile.
func TestSameAgain(t *testing.T) {
	run := func() string {
		s, _ := source.New(secret)
		r, _ := New(s.Vault())
		d, told := draw(9), ""
		for range 120 {
			_, _ = s.Do(drawnEvent(&d))
			if l := s.Feed(); len(l) > 0 && d.below(2) == 0 {
				n, _ := r.At()
				told += fmt.Sprint(api.Tell(r.Read(l[min(n, len(l)-1)])))
			}
			told += all(r) + fmt.Sprint(r.Save())
		}
		return told
	}
	want := run()
	got := make([]string, 8)
	var w sync.WaitGroup
	for i := range got {
		w.Go(func() { got[i] = run() })
	}
	w.Wait()
	for i, g := range got {
		if g != want {
			t.Errorf("run again (%d), it tells something else", i)
		}
	}
}

func drawnEvent(d *draw) api.Event {
	subject, table, row := d.of("ann", "bob", "eve"), d.of("t", "u"), d.of("r", "s", "q", "tr")
	switch d.below(9) {
	case 0:
		return gone(subject)
	case 1, 2:
		return del(subject, table, row)
	}
	return put(subject, table, row, d.of("", " ", "v", "a b", longest))
}

// TestMark (9.1): the mark is the feed's head, when all of it is read.
func TestMark(t *testing.T) {
	s := mustSource(t, some()...)
	r := mustNew(t, s.Vault())
	for _, x := range s.Feed() {
		if err := r.Read(x); err != nil {
			t.Fatalf("Read(%+v): %v", x, err)
		}
		if _, m := r.At(); m != feed.Mark(x) || m != markApart(x) {
			t.Errorf("At: %x, want %x", m, markApart(x))
		}
	}
}
