package wire

import (
	"bytes"
	"encoding/binary"
	"fmt"
	"io"
	"math/rand"
	"regexp"
	"slices"
	"strings"
	"testing"

	"oubliette/api"
	"oubliette/feed"
	"oubliette/reader"
	"oubliette/source"
)

// name is 4.1's, told apart from the program.
var name = regexp.MustCompile(`^[a-z][a-z0-9]{0,9}\z`)

// oneApart reads a record at a beginning, told apart from the program, with the library's reader of bytes; nothing, if there is none.
func oneApart(s string) (r api.Record, size int) {
	in := bytes.NewReader([]byte(s))
	take := func(n int) string {
		b := make([]byte, n)
		if _, err := io.ReadFull(in, b); err != nil {
			panic(err)
		}
		return string(b)
	}
	defer func() {
		if recover() != nil {
			r, size = api.Record{}, 0
		}
	}()
	mark := take(16)
	r.Seq = int(take(1)[0])
	r.Subject = take(int(take(1)[0]))
	r.Gen = int(take(1)[0])
	r.Prev = take(16)
	r.Body = take(int(binary.BigEndian.Uint16([]byte(take(2)))))
	if r.Seq == 0 || r.Seq > 100 || r.Gen > 100 || !name.MatchString(r.Subject) || len(r.Body) > 416 || mark != markApart(r) {
		return api.Record{}, 0
	}
	return r, len(s) - in.Len()
}

func allApart(s string) []api.Record {
	var out []api.Record
	for {
		r, size := oneApart(s)
		if size == 0 {
			return out
		}
		out, s = append(out, r), s[size:]
	}
}

// TestAll (10.1): of none, of one, of several, in any order, one of them twice.
func TestAll(t *testing.T) {
	wantAll(t, "")
	l := some()
	for i, r := range l {
		wantAll(t, writeApart(r), r)
		wantAll(t, joined(l[:i]), l[:i]...)
		wantAll(t, joined(l[i:]), l[i:]...)
		for _, other := range l {
			wantAll(t, writeApart(r)+writeApart(other), r, other)
		}
	}
	slices.Reverse(l)
	wantAll(t, joined(l), l...)
}

// TestAllOfMany (10.1): more than a feed has, too.
func TestAllOfMany(t *testing.T) {
	l := slices.Repeat(some(), 50)
	wantAll(t, joined(l), l...)
	wantAll(t, joined(l)+"x", l...)
}

// TestAllTorn (10.1): cut off at each byte, at the end or by a byte that is not theirs, those are told that are there wholly.
func TestAllTorn(t *testing.T) {
	l := some()
	s := joined(l)
	for i := range len(s) + 1 {
		whole := 0
		for whole < len(l) && len(joined(l[:whole+1])) <= i {
			whole++
		}
		wantAll(t, s[:i], l[:whole]...)
		if i < len(s) {
			wantAll(t, s[:i]+string([]byte{s[i] ^ 1})+s[i:], l[:whole]...)
		}
	}
}

// TestAllBehind (10.1): with something else behind them, or between them: nothing behind that is told.
func TestAllBehind(t *testing.T) {
	l := some()
	for _, between := range []string{"x", "\x00", "\n", none, strings.Repeat("\x00", 1000), strings.Repeat("\xff", 1000), writeApart(l[0])[1:], writeApart(l[0])[:40], markApart(l[3]), none + restApart(l[0])} {
		for i := range len(l) + 1 {
			wantAll(t, joined(l[:i])+between, l[:i]...)
			wantAll(t, joined(l[:i])+between+joined(l[i:]), l[:i]...)
		}
	}
}

// TestAllChanged (10.1): with one byte another one, those ahead of it are told.
func TestAllChanged(t *testing.T) {
	l := some()[:6]
	s := joined(l)
	for i := range len(s) {
		whole := 0
		for len(joined(l[:whole+1])) <= i {
			whole++
		}
		wantAll(t, changed(s, i, s[i]^1), l[:whole]...)
		wantAll(t, changed(s, i, s[i]+0x55), l[:whole]...)
	}
}

// TestRecordsEnd: who ranges over records may stop, and may begin again.
func TestRecordsEnd(t *testing.T) {
	l := some()
	told := records(joined(l))
	for stop := range len(l) + 1 {
		var got []api.Record
		for r, end := range told {
			if len(got) == stop {
				break
			}
			got = append(got, r)
			if end != len(joined(got)) {
				t.Errorf("record %d ends at %d, want %d", len(got), end, len(joined(got)))
			}
		}
		if !slices.Equal(got, l[:stop]) {
			t.Errorf("stopped at %d: %+v", stop, got)
		}
	}
}

// events are drawn, some of them refused.
func events(d *rand.Rand, size int) []api.Event {
	var out []api.Event
	for range size {
		e := api.Event{Kind: 1 + d.Intn(api.Gone), Subject: []string{"ann", "bob", "z123456789"}[d.Intn(3)]}
		if e.Kind != api.Gone {
			e.Table, e.Row = []string{"t", "abcdefghij"}[d.Intn(2)], []string{"r", "s"}[d.Intn(2)]
		}
		if e.Kind == api.Put {
			e.Value = []string{"", "v", " a b ", "abcdefghijklmnopqrst"}[d.Intn(4)]
		}
		out = append(out, e)
	}
	return out
}

// TestFollowed (10.1, 9.1): bytes are followed as well: who reads a feed's records from bytes has what who reads them from the feed has; of torn bytes a beginning.
func TestFollowed(t *testing.T) {
	d := rand.New(rand.NewSource(9))
	for _, size := range []int{0, 1, 5, 30, 400} {
		s, err := source.New("0123456789abcdef")
		if err != nil {
			t.Fatal(err)
		}
		for _, e := range events(d, size) {
			_, _ = s.Do(e)
		}
		text := ""
		for _, r := range s.Feed() {
			wantRight(t, r)
			u, err := Write(r)
			if err != nil {
				t.Fatalf("Write(%+v): %v", r, err)
			}
			text += u
		}
		wantAll(t, text, s.Feed()...)
		l, _ := All(text)
		if at, ok := feed.Whole(l, 1, feed.None); !ok {
			t.Errorf("of %d records, that at %d does not follow", len(l), at)
		}
		wantSameReader(t, s, l)
		torn, _ := All(text[:len(text)*2/3])
		if !slices.Equal(torn, s.Feed()[:len(torn)]) {
			t.Errorf("torn bytes are no beginning: %+v", torn)
		}
	}
}

func wantSameReader(t *testing.T, s *source.Source, l []api.Record) {
	t.Helper()
	tell := func(l []api.Record) string {
		r, err := reader.New(s.Vault())
		if err != nil {
			t.Fatal(err)
		}
		for _, x := range l {
			if err := r.Read(x); err != nil {
				t.Fatalf("Read(%+v): %v", x, err)
			}
		}
		return fmt.Sprintf("%q", fmt.Sprint(r.Save()))
	}
	if got, want := tell(l), tell(s.Feed()); got != want {
		t.Errorf("a reader of bytes has %s, one of the feed %s", got, want)
	}
}

// drawn is a record that may be, mostly.
func drawn(d *rand.Rand) api.Record {
	r := record(1+d.Intn(100), []string{"a", "ann", "b2", "abcdefghij"}[d.Intn(4)], d.Intn(101), letters(16), letters(d.Intn(60)))
	switch d.Intn(20) {
	case 0:
		r.Seq = []int{0, 101, 255}[d.Intn(3)]
	case 1:
		r.Subject = noNames[d.Intn(20)]
	case 2:
		r.Gen = []int{101, 255}[d.Intn(2)]
	case 3:
		r.Prev = letters(15 + 2*d.Intn(2))
	case 4:
		r.Body = letters(most - 1 + d.Intn(4))
	}
	return r
}

// spoilt is a text with up to two things changed.
func spoilt(d *rand.Rand, s string) string {
	for range d.Intn(3) {
		if s == "" {
			break
		}
		i := d.Intn(len(s))
		switch d.Intn(5) {
		case 0:
			s = s[:i]
		case 1:
			s = changed(s, i, byte(d.Intn(256)))
		case 2:
			s = s[:i] + s[i+1:]
		case 3:
			s = s[:i] + string([]byte{byte(d.Intn(256))}) + s[i:]
		case 4:
			s = s[:i] + s
		}
	}
	return s
}

// TestDrawn (10.1): bytes that look drawn, held against a telling apart from the program.
func TestDrawn(t *testing.T) {
	d := rand.New(rand.NewSource(10))
	for range 20_000 {
		s := ""
		for range d.Intn(4) {
			s += writeApart(drawn(d))
		}
		s = spoilt(d, s)
		wantAll(t, s, allApart(s)...)
		if r, size := oneApart(s); size > 0 && size == len(s) {
			wantParse(t, s, r)
		} else {
			wantNoParse(t, s)
		}
	}
}
