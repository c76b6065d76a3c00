package feed

import (
	"crypto/sha256"
	"encoding/binary"
	"encoding/hex"
	"errors"
	"fmt"
	"math"
	"slices"
	"strings"
	"sync"
	"testing"

	"oubliette/api"
	"oubliette/box"
	"oubliette/event"
	"oubliette/vault"
)

const (
	secret  = "0123456789abcdef"
	longest = "abcdefghijklmnopqrst" // a value of MaxValue bytes
)

// wrong: events that may not be.
var wrong = []api.Event{
	{},
	{Kind: api.Put}, {Kind: api.Del}, {Kind: api.Gone},
	{Kind: 0, Subject: "ann"}, {Kind: 4, Subject: "ann"}, {Kind: -1, Subject: "ann"}, {Kind: math.MaxInt, Subject: "ann"}, {Kind: math.MinInt, Subject: "ann"},
	{Kind: 4, Subject: "ann", Table: "t", Row: "r", Value: "v"}, {Kind: 257, Subject: "ann", Table: "t", Row: "r", Value: "v"}, {Kind: 259, Subject: "ann"},
	put("", "t", "r", "v"), put("Ann", "t", "r", "v"), put("1", "t", "r", "v"), put("ann ", "t", "r", "v"), put("abcdefghijk", "t", "r", "v"), put("\xff", "t", "r", "v"),
	put("ann", "", "r", "v"), put("ann", "T", "r", "v"), put("ann", "t", "", "v"), put("ann", "t", "r ", "v"), put("new", "t", "abcdefghijk", "v"),
	put("ann", "t", "r", longest+"u"), put("ann", "t", "r", "\x1f"), put("new", "t", "r", "\x7f"), put("ann", "t", "r", "é"), put("ann", "t", "r", strings.Repeat("v", 70_000)),
	del("", "t", "r"), del("Ann", "t", "r"), del("ann", "", "r"), del("ann", "t", ""), del("new", "T", "r"),
	{Kind: api.Del, Subject: "ann", Table: "t", Row: "r", Value: "v"}, {Kind: api.Del, Subject: "new", Table: "t", Row: "r", Value: " "},
	gone(""), gone("Ann"), gone("ann "), gone("1ann"), gone("abcdefghijk"),
	{Kind: api.Gone, Subject: "ann", Table: "t"}, {Kind: api.Gone, Subject: "ann", Row: "r"}, {Kind: api.Gone, Subject: "ann", Value: "v"}, {Kind: api.Gone, Subject: "ann", Table: "t", Row: "r", Value: "v"},
}

func put(subject, table, row, value string) api.Event {
	return api.Event{Kind: api.Put, Subject: subject, Table: table, Row: row, Value: value}
}

func del(subject, table, row string) api.Event {
	return api.Event{Kind: api.Del, Subject: subject, Table: table, Row: row}
}

func gone(subject string) api.Event {
	return api.Event{Kind: api.Gone, Subject: subject}
}

// numApart and markApart are written apart from the program: from the library's sum and the library's order of bytes.
func numApart(n int) string {
	return string(binary.BigEndian.AppendUint64(nil, uint64(n)))
}

func markApart(kind byte, parts ...string) string {
	text := []byte{kind}
	for _, part := range parts {
		text = append(text, numApart(len(part))...)
		text = append(text, part...)
	}
	h := sha256.Sum256(text)
	return string(h[:16])
}

// recordMark is what 7.1 says of Mark.
func recordMark(r api.Record) string {
	return markApart('r', numApart(r.Seq), r.Subject, numApart(r.Gen), r.Prev, r.Body)
}

// sealed is the record with the Body that 7.1 asks for, of any text.
func sealed(t *testing.T, key string, r api.Record, text string) api.Record {
	t.Helper()
	body, err := box.Seal(key, numApart(r.Seq)+"feed", markApart('a', numApart(r.Seq), r.Subject, numApart(r.Gen), r.Prev), text)
	if err != nil {
		t.Fatalf("Seal: %v", err)
	}
	r.Body = body
	return r
}

func printed(t *testing.T, e api.Event) string {
	t.Helper()
	s, err := event.Print(e)
	if err != nil {
		t.Fatalf("Print(%+v): %v", e, err)
	}
	return s
}

func mustVault(t *testing.T, secret string) *vault.Vault {
	t.Helper()
	v, err := vault.New(secret)
	if v == nil || err != nil {
		t.Fatalf("vault.New(%q): %v, %v", secret, v, err)
	}
	return v
}

func mustNew(t *testing.T, v *vault.Vault) *Feed {
	t.Helper()
	f, err := New(v)
	if f == nil || err != nil {
		t.Fatalf("New: %v, %v", f, err)
	}
	return f
}

func mustTell(t *testing.T, f *Feed, events ...api.Event) []api.Record {
	t.Helper()
	var out []api.Record
	for _, e := range events {
		r, err := f.Tell(e)
		if err != nil {
			t.Fatalf("Tell(%+v): %v", e, err)
		}
		out = append(out, r)
	}
	return out
}

// wantErrno: that error, without a place (P3).
func wantErrno(t *testing.T, what string, err error, want api.Errno) {
	t.Helper()
	if api.Tell(err) != want {
		t.Errorf("%.100s: %v, want %v", what, err, want)
	}
	var at *api.At
	if errors.As(err, &at) {
		t.Errorf("%.100s: the error has a place, %d", what, at.Place)
	}
}

// held is all that a vault tells of some subjects.
func held(v *vault.Vault) string {
	told := fmt.Sprintf("%q", v.Subjects())
	for _, s := range []string{"ann", "bob", "eve", "new", "zoe", "Ann", ""} {
		for gen := range 5 {
			k, err := v.Key(s, gen)
			told += fmt.Sprintf(" %s %d %x %d", s, gen, k, api.Tell(err))
		}
	}
	return told
}

// wantNoTell: that error alone, no record more, and nothing is changed, in the vault neither (P2).
func wantNoTell(t *testing.T, f *Feed, v *vault.Vault, e api.Event, want api.Errno) {
	t.Helper()
	head, records, keys := f.Head(), f.Records(), held(v)
	r, err := f.Tell(e)
	if r != (api.Record{}) {
		t.Errorf("Tell(%.100q): %+v beside %v", fmt.Sprint(e), r, err)
	}
	wantErrno(t, fmt.Sprintf("Tell(%+v)", e), err, want)
	if f.Head() != head || !slices.Equal(f.Records(), records) {
		t.Errorf("Tell(%.100q): an error, and other records than ahead of it", fmt.Sprint(e))
	}
	if got := held(v); got != keys {
		t.Errorf("Tell(%.100q): an error, and other keys than ahead of it: %s, want %s", fmt.Sprint(e), got, keys)
	}
}

// TestNone (7.1): 16 bytes of 0.
func TestNone(t *testing.T) {
	if None != strings.Repeat("\x00", 16) {
		t.Errorf("None: %x", None)
	}
}

// TestMarkKnown (7.1): worked out apart from the program.
func TestMarkKnown(t *testing.T) {
	for _, c := range []struct {
		r    api.Record
		want string
	}{
		{api.Record{}, "ae5451b8db63ab3b55f0fc4e0ad570ce"},
		{api.Record{Seq: -1, Subject: "\xff", Gen: -258, Prev: "\x00", Body: "b"}, "e9968607ccbaa2b81cd571924749b67f"},
	} {
		if got := hex.EncodeToString([]byte(Mark(c.r))); got != c.want {
			t.Errorf("Mark(%+v): %s, want %s", c.r, got, c.want)
		}
	}
}

// TestMarkByEachField (7.1): records that differ in one field alone, or in where a byte stands, have other marks.
func TestMarkByEachField(t *testing.T) {
	r := api.Record{Seq: 1, Subject: "ann", Gen: 2, Prev: "prev", Body: "body"}
	records := []api.Record{r}
	for _, n := range []int{0, 2, 3, 256, 1 << 32, -1, math.MaxInt, math.MinInt} {
		a, b := r, r
		a.Seq, b.Gen = n, n
		records = append(records, a)
		if n != r.Gen {
			records = append(records, b)
		}
	}
	for _, s := range []string{"", "a", "anm", "Ann", "annp", "\xff", "prev\x00", strings.Repeat("a", 70_000)} {
		a, b, c := r, r, r
		a.Subject, b.Prev, c.Body = s, s, s
		records = append(records, a, b, c)
	}
	records = append(records,
		api.Record{Seq: 2, Subject: "ann", Gen: 1, Prev: "prev", Body: "body"},
		api.Record{Seq: 1, Subject: "annp", Gen: 2, Prev: "rev", Body: "body"},
		api.Record{Seq: 1, Subject: "ann", Gen: 2, Prev: "prevb", Body: "ody"},
		api.Record{Seq: 1, Subject: "ann", Gen: 2, Prev: "body", Body: "prev"},
		api.Record{Seq: 1, Subject: "prev", Gen: 2, Prev: "ann", Body: "body"},
	)
	whose := map[string]int{}
	for i, r := range records {
		m := Mark(r)
		if len(m) != api.MarkSize || m != recordMark(r) {
			t.Errorf("Mark(%.100q): %x, want %x", fmt.Sprint(r), m, recordMark(r))
		}
		if before, ok := whose[m]; ok {
			t.Errorf("records %d and %d have one mark, %x", before, i, m)
		}
		whose[m] = i
	}
}

// TestNew (7.1): of no vault there is no feed; of one that is there, no records.
func TestNew(t *testing.T) {
	f, err := New(nil)
	if f != nil {
		t.Errorf("New(nil): a feed beside %v", err)
	}
	wantErrno(t, "New(nil)", err, api.ErrMissing)
	filled := mustVault(t, secret)
	filled.Make("ann")
	for _, v := range []*vault.Vault{mustVault(t, secret), filled, {}} {
		before := held(v)
		f := mustNew(t, v)
		if f.Head() != None || len(f.Records()) != 0 {
			t.Errorf("a new feed: %x, %+v", f.Head(), f.Records())
		}
		if held(v) != before {
			t.Error("New changes the vault")
		}
	}
}

// TestTellKnown (7.1): worked out apart from the program, from the event's text to the mark.
func TestTellKnown(t *testing.T) {
	f := mustNew(t, mustVault(t, secret))
	for i, c := range []struct {
		e          api.Event
		gen        int
		body, mark string
	}{
		{put("ann", "mail", "box", "a b"), 1, "d6fa79391b9b9d0c957b7aecd3fd5aec6c22ae51e3ea4d42b2c292d89b692bbf80311438", "6a2040af6727a627981a3cfaf49926d0"},
		{put("bob", "t", "r", ""), 1, "0da8ec2347865bc501b0c1be551ec1377b75e540ca55963587f99eff", "b8d408f5c2ca89e3de246392dfe9f212"},
		{del("ann", "mail", "box"), 1, "91c7b576cb64be9c3d2cd326355ada9674593a69bbeaed09f86115c9fdea290d", "6cafcdc98af90cf61e36a22a9ccda541"},
		{gone("ann"), 0, "676f6e6520616e6e", "54adb49b02277c9081c9d778a9135a1f"},
		{put("ann", "t", "s", longest), 2, "e6675c41df160a32b7df2284e641faf7177e1ae6197b1a63ea33d084f223ed46c751c854feb55c79f287c13d519c1013", "db63a7e08a7f2c5eb104c199b31406c2"},
	} {
		want := api.Record{Seq: i + 1, Subject: c.e.Subject, Gen: c.gen, Prev: f.Head()}
		r := mustTell(t, f, c.e)[0]
		body := hex.EncodeToString([]byte(r.Body))
		r.Body = ""
		if r != want || body != c.body {
			t.Errorf("Tell(%+v): %+v, %s, want %+v, %s", c.e, r, body, want, c.body)
		}
		if got := hex.EncodeToString([]byte(f.Head())); got != c.mark {
			t.Errorf("Head behind %+v: %s, want %s", c.e, got, c.mark)
		}
	}
}

// follower says what a feed must tell next: it has a vault of its own, of the same secret, in which it does what 7.1 tells.
type follower struct {
	keys    *vault.Vault
	records []api.Record
}

func (w *follower) next(t *testing.T, e api.Event) api.Record {
	t.Helper()
	r := api.Record{Seq: len(w.records) + 1, Subject: e.Subject, Prev: strings.Repeat("\x00", 16)}
	if len(w.records) > 0 {
		r.Prev = recordMark(w.records[len(w.records)-1])
	}
	if e.Kind == api.Gone {
		if err := w.keys.Forget(e.Subject); err != nil {
			t.Fatalf("Forget(%q): %v", e.Subject, err)
		}
		r.Body = printed(t, e)
	} else {
		gen, key, err := w.keys.Make(e.Subject)
		if err != nil {
			t.Fatalf("Make(%q): %v", e.Subject, err)
		}
		r.Gen = gen
		r = sealed(t, key, r, printed(t, e))
	}
	w.records = append(w.records, r)
	return r
}

// wantTell: the record that 7.1 tells, the Head behind it, all Records, and the keys.
func wantTell(t *testing.T, f *Feed, v *vault.Vault, w *follower, e api.Event) {
	t.Helper()
	want := w.next(t, e)
	if r, err := f.Tell(e); r != want || err != nil {
		t.Errorf("Tell(%+v): %+v, %v, want %+v", e, r, err, want)
	}
	if f.Head() != recordMark(want) {
		t.Errorf("Head behind %+v: %x, want %x", e, f.Head(), recordMark(want))
	}
	if got := f.Records(); !slices.Equal(got, w.records) {
		t.Errorf("Records behind %+v: %+v, want %+v", e, got, w.records)
	}
	if got, want := held(v), held(w.keys); got != want {
		t.Errorf("keys behind %+v: %s, want %s", e, got, want)
	}
}

// TestTell (7.1): each kind, and the numbers of keys behind a Gone, of the same subject and of others.
func TestTell(t *testing.T) {
	v := mustVault(t, secret)
	f, w := mustNew(t, v), &follower{keys: mustVault(t, secret)}
	for _, e := range []api.Event{
		put("ann", "t", "r", "v"), put("ann", "t", "r", "v"), put("bob", "t", "r", ""), del("ann", "t", "r"), del("ann", "t", "r"),
		del("eve", "t", "r"), gone("ann"), put("bob", "u", "s", " "), put("ann", "t", "r", "v"), gone("ann"), gone("eve"),
		del("ann", "t", "r"), put("ann", "t", "r", longest), gone("bob"), gone("ann"), put("zoe", "abcdefghij", "z123456789", "~"),
	} {
		wantTell(t, f, v, w, e)
	}
	gens := []int{1, 1, 1, 1, 1, 1, 0, 1, 2, 0, 0, 3, 3, 0, 0, 1}
	for i, r := range f.Records() {
		if r.Seq != i+1 || r.Gen != gens[i] {
			t.Errorf("record %d: Seq %d, Gen %d, want Gen %d", i, r.Seq, r.Gen, gens[i])
		}
	}
}

// TestTellOfWrongEvents (7.1, P2): ErrArg, whether there are records or not, and keys or not.
func TestTellOfWrongEvents(t *testing.T) {
	empty, filled := mustVault(t, secret), mustVault(t, secret)
	none, f := mustNew(t, empty), mustNew(t, filled)
	mustTell(t, f, put("ann", "t", "r", "v"), put("bob", "t", "s", "v"), gone("bob"))
	for _, e := range wrong {
		wantNoTell(t, none, empty, e, api.ErrArg)
		wantNoTell(t, f, filled, e, api.ErrArg)
	}
	w := &follower{keys: mustVault(t, secret)}
	wantTell(t, none, empty, w, put("ann", "t", "r", "v"))
}

// TestTellOfNobodyGone (7.1, P2): ErrNone, of who never had a key, and of who has none any more.
func TestTellOfNobodyGone(t *testing.T) {
	v := mustVault(t, secret)
	f := mustNew(t, v)
	wantNoTell(t, f, v, gone("ann"), api.ErrNone)
	mustTell(t, f, put("ann", "t", "r", "v"), put("bob", "t", "r", "v"))
	wantNoTell(t, f, v, gone("eve"), api.ErrNone)
	wantNoTell(t, f, v, gone("an"), api.ErrNone)
	mustTell(t, f, gone("ann"))
	for range 2 {
		wantNoTell(t, f, v, gone("ann"), api.ErrNone)
	}
	mustTell(t, f, del("ann", "t", "r"), gone("ann"))
	wantNoTell(t, f, v, gone("ann"), api.ErrNone)
	if n := len(f.Records()); n != 5 {
		t.Errorf("%d records, want 5", n)
	}
}

// TestTellWhereFull (7.1, P2): MaxFeed records, and no more; what may not be is told ahead of that, and that ahead of who has no key.
func TestTellWhereFull(t *testing.T) {
	v := mustVault(t, secret)
	f, w := mustNew(t, v), &follower{keys: mustVault(t, secret)}
	for i := range api.MaxFeed {
		wantTell(t, f, v, w, put("ann", "t", fmt.Sprint("r", i), "v"))
	}
	if l := f.Records(); len(l) != 100 || l[99].Seq != 100 {
		t.Errorf("%d records", len(l))
	}
	for range 2 {
		for _, e := range wrong {
			wantNoTell(t, f, v, e, api.ErrArg)
		}
		for _, e := range []api.Event{put("ann", "t", "r", "v"), put("new", "t", "r", "v"), del("ann", "t", "r1"), del("new", "t", "r"), gone("ann"), gone("new")} {
			wantNoTell(t, f, v, e, api.ErrFull)
		}
	}
}

// TestTellUpToTheLast (7.1): each kind may be the last one; a refused one counts for nothing.
func TestTellUpToTheLast(t *testing.T) {
	for _, last := range []api.Event{put("new", "t", "r", "v"), del("ann", "t", "r"), gone("ann")} {
		v := mustVault(t, secret)
		f, w := mustNew(t, v), &follower{keys: mustVault(t, secret)}
		for range api.MaxFeed - 1 {
			wantTell(t, f, v, w, put("ann", "t", "r", "v"))
		}
		wantNoTell(t, f, v, gone("new"), api.ErrNone)
		wantNoTell(t, f, v, gone(""), api.ErrArg)
		wantTell(t, f, v, w, last)
		wantNoTell(t, f, v, last, api.ErrFull)
	}
}

// TestRecordsAreTheCallers (P4): what is done to an answer is seen in no other one, nor in the feed.
func TestRecordsAreTheCallers(t *testing.T) {
	f := mustNew(t, mustVault(t, secret))
	want := mustTell(t, f, put("ann", "t", "r", "v"), put("bob", "t", "s", "w"), gone("ann"))
	head := f.Head()
	first, second := f.Records(), f.Records()
	for i := range first {
		first[i] = api.Record{Seq: 9, Subject: "x"}
	}
	_ = append(first[:1], api.Record{Seq: 8})
	_ = append(first, api.Record{Seq: 7})
	if !slices.Equal(second, want) || !slices.Equal(f.Records(), want) || f.Head() != head {
		t.Errorf("what is written into an answer is read elsewhere: %+v, %+v, %x", second, f.Records(), f.Head())
	}
	third := f.Records()
	more := mustTell(t, f, put("eve", "t", "r", "v"))[0]
	_ = append(third, api.Record{Seq: 6})
	_ = append(third[:cap(third)], api.Record{Seq: 6})
	if !slices.Equal(f.Records(), append(want, more)) || !slices.Equal(third, want) {
		t.Errorf("what is told later, and what stands behind an answer: %+v, %+v", f.Records(), third)
	}
	more.Body = "x"
	if f.Records()[3].Body == "x" {
		t.Error("the record that Tell answered is the feed's own")
	}
}

// TestToldAgain (P4, 4.1): told again, of another vault of that secret, it is the same; of another secret the bodies are others.
func TestToldAgain(t *testing.T) {
	events := []api.Event{put("ann", "t", "r", "v"), del("bob", "t", "s"), gone("ann"), put("ann", "t", "r", "v")}
	one := mustTell(t, mustNew(t, mustVault(t, secret)), events...)
	two := mustTell(t, mustNew(t, mustVault(t, secret)), events...)
	other := mustTell(t, mustNew(t, mustVault(t, "0123456789abcdeF")), events...)
	if !slices.Equal(one, two) {
		t.Errorf("told again: %+v, want %+v", two, one)
	}
	for i := range one {
		if (one[i].Body == other[i].Body) != (one[i].Gen == 0) {
			t.Errorf("record %d, of another secret: %x and %x", i, other[i].Body, one[i].Body)
		}
	}
}

// TestOneVaultForTwo (P1): two feeds of one vault have its keys in common, and each its own records; what is done to the vault itself is seen, too.
func TestOneVaultForTwo(t *testing.T) {
	v := mustVault(t, secret)
	f, g := mustNew(t, v), mustNew(t, v)
	a := mustTell(t, f, put("ann", "t", "r", "v"))
	b := mustTell(t, g, gone("ann"), put("ann", "t", "r", "v"))
	a = append(a, mustTell(t, f, put("ann", "t", "r", "v"))...)
	if a[0].Gen != 1 || b[0].Gen != 0 || b[1].Gen != 2 || a[1].Gen != 2 || b[0].Seq != 1 || b[0].Prev != None {
		t.Errorf("two feeds of one vault: %+v, %+v", a, b)
	}
	if !slices.Equal(f.Records(), a) || !slices.Equal(g.Records(), b) {
		t.Errorf("their records: %+v, %+v", f.Records(), g.Records())
	}
	wantErrno(t, "Forget", v.Forget("ann"), api.OK)
	wantNoTell(t, f, v, gone("ann"), api.ErrNone)
	if r := mustTell(t, f, del("ann", "t", "r"))[0]; r.Gen != 3 {
		t.Errorf("a key behind Forget: %d, want 3", r.Gen)
	}
	v.Make("bob")
	if r := mustTell(t, f, gone("bob"))[0]; r.Gen != 0 || r.Body != "gone bob" {
		t.Errorf("a Gone of who has a key that no record is sealed by: %+v", r)
	}
}

// TestManyKeys (7.1): a Gen is the vault's number, however great.
func TestManyKeys(t *testing.T) {
	v := mustVault(t, secret)
	for range 300 {
		v.Make("ann")
		v.Forget("ann")
	}
	f := mustNew(t, v)
	r := mustTell(t, f, put("ann", "t", "r", "v"))[0]
	if r.Gen != 301 {
		t.Errorf("Gen: %d, want 301", r.Gen)
	}
	if e, err := Open(v, r); e != put("ann", "t", "r", "v") || err != nil {
		t.Errorf("Open: %+v, %v", e, err)
	}
}

// TestNoVault (P1): a feed that nobody made, or that is nil, has nothing to seal by: no call panics, and there is never a record.
func TestNoVault(t *testing.T) {
	made, _ := New(nil)
	for _, f := range []*Feed{{}, nil, made} {
		if f.Head() != None || len(f.Records()) != 0 {
			t.Errorf("Head and Records: %x, %+v", f.Head(), f.Records())
		}
		for _, e := range wrong {
			wantNoTell(t, f, nil, e, api.ErrArg)
		}
		wantNoTell(t, f, nil, put("ann", "t", "r", "v"), api.ErrMissing)
		wantNoTell(t, f, nil, del("ann", "t", "r"), api.ErrMissing)
		wantNoTell(t, f, nil, gone("ann"), api.ErrNone)
	}
}

// draw: numbers that look drawn, the same each time.
type draw uint64

func (d *draw) below(most int) int {
	*d = *d*6364136223846793005 + 1442695040888963407
	return int(uint64(*d>>33) % uint64(most))
}

func (d *draw) of(l ...string) string {
	return l[d.below(len(l))]
}

// drawnEvent may be.
func drawnEvent(d *draw) api.Event {
	subject, table, row := d.of("ann", "bob", "eve", "zoe"), d.of("t", "u"), d.of("r", "s", "q")
	switch d.below(8) {
	case 0, 1:
		return gone(subject)
	case 2, 3:
		return del(subject, table, row)
	}
	return put(subject, table, row, d.of("", " ", "v", "a b", longest))
}

// TestDrawnFeeds (7.1, 7.2): long ones, those that are refused among them; all is Whole, and is opened, or is ErrNone where the key is gone.
func TestDrawnFeeds(t *testing.T) {
	d := draw(7)
	for range 30 {
		v := mustVault(t, secret)
		f, w := mustNew(t, v), &follower{keys: mustVault(t, secret)}
		var events []api.Event
		for range d.below(50) {
			e := drawnEvent(&d)
			switch {
			case d.below(10) == 0:
				wantNoTell(t, f, v, wrong[d.below(len(wrong))], api.ErrArg)
			case e.Kind == api.Gone && !slices.Contains(v.Subjects(), e.Subject):
				wantNoTell(t, f, v, e, api.ErrNone)
			default:
				wantTell(t, f, v, w, e)
				events = append(events, e)
			}
		}
		l := f.Records()
		wantWhole(t, l, 1, None)
		for i, e := range events {
			behind := slices.ContainsFunc(events[i+1:], func(x api.Event) bool { return x == gone(e.Subject) })
			if e.Kind != api.Gone && behind {
				wantNoOpen(t, v, l[i], api.ErrNone)
			} else {
				wantOpen(t, v, l[i], e)
			}
		}
	}
}

// TestSameAgain (P4): an answer hangs on the calls on its own feed and vault alone, whoever else asks others meanwhile.
func TestSameAgain(t *testing.T) {
	run := func() string {
		v, _ := vault.New(secret)
		f, _ := New(v)
		d := draw(11)
		told := ""
		for range 60 {
			r, err := f.Tell(drawnEvent(&d))
			e, also := Open(v, r)
			told += fmt.Sprint(r, api.Tell(err), e, api.Tell(also), f.Head())
		}
		n, ok := Whole(f.Records(), 1, None)
		return told + fmt.Sprint(n, ok, f.Records())
	}
	want := run()
	got := make([]string, 8)
	var w sync.WaitGroup
	for i := range got {
		w.Go(func() { got[i] = run() })
	}
	w.Wait()
	for i, g := range got {
		if g != want {
			t.Errorf("run again (%d), it tells something else", i)
		}
	}
}
