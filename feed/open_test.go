package feed

import (
	"fmt"
	"math"
	"slices"
	"strings"
	"testing"

	"oubliette/api"
	"oubliette/vault"
)

// wantWhole: (0, true).
func wantWhole(t *testing.T, l []api.Record, from int, prev string) {
	t.Helper()
	if n, ok := Whole(l, from, prev); n != 0 || !ok {
		t.Errorf("Whole of %d records, from %d, %x: %d, %v", len(l), from, prev, n, ok)
	}
}

// wantStray: that one is the first that does not follow.
func wantStray(t *testing.T, what string, l []api.Record, from int, prev string, want int) {
	t.Helper()
	if n, ok := Whole(l, from, prev); n != want || ok {
		t.Errorf("%s: Whole of %d records, from %d, %x: %d, %v, want %d, false", what, len(l), from, prev, n, ok, want)
	}
}

func wantOpen(t *testing.T, v *vault.Vault, r api.Record, want api.Event) {
	t.Helper()
	if e, err := Open(v, r); e != want || err != nil {
		t.Errorf("Open(%+v): %+v, %v, want %+v", r, e, err, want)
	}
}

// wantNoOpen: that error alone (P2), and the vault is as it was.
func wantNoOpen(t *testing.T, v *vault.Vault, r api.Record, want api.Errno) {
	t.Helper()
	before := held(v)
	e, err := Open(v, r)
	if e != (api.Event{}) {
		t.Errorf("Open(%.200q): %+v beside %v", fmt.Sprint(r), e, err)
	}
	wantErrno(t, fmt.Sprintf("Open(%+v)", r), err, want)
	if held(v) != before {
		t.Errorf("Open(%.200q) changes the vault", fmt.Sprint(r))
	}
}

// some is a feed of seven records of two subjects, of which none was forgotten but cid.
func some(t *testing.T) (*vault.Vault, []api.Event, []api.Record) {
	t.Helper()
	v := mustVault(t, secret)
	events := []api.Event{put("ann", "t", "r", "v"), put("bob", "t", "s", ""), put("cid", "u", "r", "a b"), del("ann", "t", "r"), gone("cid"), put("ann", "u", "s", longest), del("bob", "t", "s")}
	return v, events, mustTell(t, mustNew(t, v), events...)
}

// changed are records that differ from one in one field alone.
func changed(r api.Record) []api.Record {
	var out []api.Record
	edit := func(f func(*api.Record)) {
		c := r
		f(&c)
		if c != r {
			out = append(out, c)
		}
	}
	for _, n := range []int{0, 1, 2, r.Seq - 1, r.Seq + 1, -r.Seq, r.Seq + 256, r.Seq + 1<<32, math.MaxInt, math.MinInt} {
		edit(func(c *api.Record) { c.Seq = n })
	}
	for _, n := range []int{0, 1, 2, r.Gen - 1, r.Gen + 1, -r.Gen, r.Gen + 256, r.Gen + 1<<32, math.MaxInt, math.MinInt} {
		edit(func(c *api.Record) { c.Gen = n })
	}
	for _, s := range []string{"", "ann", "bob", "cid", "eve", "Ann", "x", r.Subject + "x", r.Subject + " ", strings.ToUpper(r.Subject)} {
		edit(func(c *api.Record) { c.Subject = s })
	}
	for _, s := range variants(r.Prev) {
		edit(func(c *api.Record) { c.Prev = s })
	}
	for _, s := range variants(r.Body) {
		edit(func(c *api.Record) { c.Body = s })
	}
	return out
}

// variants are texts that are nearly that one, and some that are not.
func variants(s string) []string {
	out := []string{"", None, s + "\x00", "\x00" + s, s + s, strings.Repeat("x", len(s)), strings.Repeat("x", 70_000)}
	for i := range len(s) {
		b := []byte(s)
		b[i] ^= 1
		out = append(out, string(b), s[:i], s[i:])
	}
	return out
}

// TestWhole (7.2): no records, all, and each piece from the middle.
func TestWhole(t *testing.T) {
	_, _, l := some(t)
	wantWhole(t, nil, 1, None)
	wantWhole(t, []api.Record{}, 1, None)
	wantWhole(t, nil, math.MinInt, "")
	wantWhole(t, nil, math.MaxInt, "any text")
	wantWhole(t, l, 1, None)
	for i := range l {
		prev := None
		if i > 0 {
			prev = recordMark(l[i-1])
		}
		for j := i; j <= len(l); j++ {
			wantWhole(t, l[i:j], i+1, prev)
		}
	}
}

// TestWholeFromElsewhere (7.2): another number or mark to begin with: the first one does not follow.
func TestWholeFromElsewhere(t *testing.T) {
	_, _, l := some(t)
	for i := range l {
		prev := None
		if i > 0 {
			prev = recordMark(l[i-1])
		}
		for _, from := range []int{math.MinInt, -1, 0, i, i + 2, i + 1 + 256, i + 1 + 1<<32, math.MaxInt} {
			wantStray(t, "another number", l[i:], from, prev, 0)
		}
		for _, other := range append(variants(prev), recordMark(l[i])) {
			if other != prev {
				wantStray(t, "another mark", l[i:], i+1, other, 0)
			}
		}
	}
}

// strayApart is the first that does not follow, told one by one apart from the program; -1: none.
func strayApart(l []api.Record, from int, prev string) int {
	for i, r := range l {
		if i > 0 {
			from, prev = from+1, recordMark(l[i-1])
		}
		if r.Seq != from || r.Prev != prev {
			return i
		}
	}
	return -1
}

// TestWholeOfChanged (7.2): one field of one record: a Seq or a Prev is noticed in it, any other one in the record behind it, by its Prev; of the last one none else can be.
func TestWholeOfChanged(t *testing.T) {
	_, _, l := some(t)
	for i := range l {
		for _, c := range changed(l[i]) {
			spoilt := slices.Clone(l)
			spoilt[i] = c
			want := i + 1
			if c.Seq != l[i].Seq || c.Prev != l[i].Prev {
				want = i
			}
			if apart := strayApart(spoilt, 1, None); want < len(l) && apart != want || want == len(l) && apart != -1 {
				t.Fatalf("the test's own telling: %d, want %d", apart, want)
			}
			if want == len(l) {
				wantWhole(t, spoilt, 1, None)
			} else {
				wantStray(t, "one field changed", spoilt, 1, None, want)
			}
		}
	}
}

// TestWholeOfOthers (7.2): one left out, one twice, two exchanged, all turned round, or two feeds mixed: where it is first noticed.
func TestWholeOfOthers(t *testing.T) {
	_, _, l := some(t)
	for i := range l {
		without := slices.Delete(slices.Clone(l), i, i+1)
		if i == len(l)-1 {
			wantWhole(t, without, 1, None)
		} else {
			wantStray(t, "one left out", without, 1, None, i)
		}
		wantStray(t, "one twice", slices.Insert(slices.Clone(l), i+1, l[i]), 1, None, i+1)
		for j := i + 1; j < len(l); j++ {
			turned := slices.Clone(l)
			turned[i], turned[j] = turned[j], turned[i]
			wantStray(t, "two exchanged", turned, 1, None, i)
		}
	}
	back := slices.Clone(l)
	slices.Reverse(back)
	wantStray(t, "turned round", back, 1, None, 0)
	other := mustTell(t, mustNew(t, mustVault(t, secret)), put("eve", "t", "r", "v"), put("eve", "t", "r", "w"), put("eve", "t", "r", "x"))
	wantStray(t, "another feed's end", append(l[:2:2], other[2:]...), 1, None, 2)
	wantStray(t, "another feed's beginning", append(other[:1:1], l[1:]...), 1, None, 1)
	wantWhole(t, other, 1, None)
}

// chain are records that follow, of any numbers and texts: Whole asks for nothing else.
func chain(n, from int, prev string) []api.Record {
	var out []api.Record
	for i := range n {
		r := api.Record{Seq: from + i, Subject: strings.Repeat("\xff", i), Gen: -i, Prev: prev, Body: fmt.Sprint("body", i)}
		out = append(out, r)
		prev = recordMark(r)
	}
	return out
}

// TestWholeOfAnyNumbers (7.2): records need not be a feed's, nor as few; numbers from any on, but nothing is one more than the greatest.
func TestWholeOfAnyNumbers(t *testing.T) {
	for _, from := range []int{math.MinInt, math.MinInt + 1, -300, -2, -1, 0, 1, 2, 100, 1 << 32, math.MaxInt - 499} {
		for _, prev := range []string{None, "", "x", strings.Repeat("p", 70_000)} {
			l := chain(500, from, prev)
			wantWhole(t, l, from, prev)
			l[250].Body += "x"
			wantStray(t, "a body changed", l, from, prev, 251)
		}
	}
	wantWhole(t, chain(1, math.MaxInt, None), math.MaxInt, None)
	wantWhole(t, chain(3, math.MaxInt-2, None), math.MaxInt-2, None)
	wantStray(t, "behind the greatest number", chain(2, math.MaxInt, None), math.MaxInt, None, 1)
	wantStray(t, "behind the greatest number", chain(5, math.MaxInt-2, None), math.MaxInt-2, None, 3)
	wantStray(t, "the least number, from the greatest", chain(1, math.MinInt, None), math.MaxInt, None, 0)
	wantStray(t, "the greatest number, from the least", chain(1, math.MaxInt, None), math.MinInt, None, 0)
}

// TestWholeKeepsItsList (P4): no list is written into, nor what stands behind its length; asked again, it is the same.
func TestWholeKeepsItsList(t *testing.T) {
	_, _, l := some(t)
	want := slices.Clone(l)
	for range 2 {
		wantWhole(t, l[:3], 1, None)
		wantStray(t, "from the middle", l[3:5], 1, None, 0)
	}
	if !slices.Equal(l, want) {
		t.Errorf("Whole writes into its list: %+v", l)
	}
}

// TestOpen (7.2): what was told is read, while its key is there; a Gone always, and by any vault.
func TestOpen(t *testing.T) {
	v, events, l := some(t)
	for i, r := range l {
		for range 2 {
			if events[i].Subject == "cid" && events[i].Kind != api.Gone {
				wantNoOpen(t, v, r, api.ErrNone)
			} else {
				wantOpen(t, v, r, events[i])
			}
		}
	}
	for _, e := range []api.Event{put("ann", "t", "r", ""), put("ann", "t", "r", " "), put("ann", "t", "r", "gone ann"), put("ann", "t", "r", "  a  b  "), put("z123456789", "abcdefghij", "q0q0q0q0q0", longest), del("ann", "ann", "ann")} {
		wantOpen(t, v, mustTell(t, mustNew(t, v), e)[0], e)
	}
	for _, other := range []*vault.Vault{mustVault(t, "fedcba9876543210"), {}} {
		wantOpen(t, other, l[4], gone("cid"))
	}
}

// TestOpenOfForgotten (7.2): behind a Gone of its subject nobody reads it again, not by the next key either; the feed stays whole.
func TestOpenOfForgotten(t *testing.T) {
	v := mustVault(t, secret)
	f := mustNew(t, v)
	first := mustTell(t, f, put("ann", "t", "r", "v"), del("ann", "t", "r"), put("bob", "t", "r", "v"))
	wantOpen(t, v, first[0], put("ann", "t", "r", "v"))
	left := mustTell(t, f, gone("ann"))[0]
	check := func() {
		t.Helper()
		wantNoOpen(t, v, first[0], api.ErrNone)
		wantNoOpen(t, v, first[1], api.ErrNone)
		wantOpen(t, v, first[2], put("bob", "t", "r", "v"))
		wantOpen(t, v, left, gone("ann"))
		wantWhole(t, f.Records(), 1, None)
	}
	check()
	again := mustTell(t, f, put("ann", "t", "r", "new"))[0]
	check()
	wantOpen(t, v, again, put("ann", "t", "r", "new"))
	by := first[0]
	by.Gen = again.Gen
	wantNoOpen(t, v, by, api.ErrSpoilt)
	wantErrno(t, "Forget", v.Forget("ann"), api.OK)
	check()
	wantNoOpen(t, v, again, api.ErrNone)
}

// openError is which error 7.2 tells of a record that is not as it was told, from the vault alone.
func openError(v *vault.Vault, r api.Record) api.Errno {
	if r.Gen == 0 {
		return api.ErrSpoilt
	}
	if _, err := v.Key(r.Subject, r.Gen); err != nil {
		return api.Tell(err)
	}
	return api.ErrSpoilt
}

// TestOpenOfChanged (7.2): each field: the vault's error first, then what was not sealed so; of a Gone's record its place is not sealed, and not asked for.
func TestOpenOfChanged(t *testing.T) {
	v, events, l := some(t)
	seen := map[api.Errno]int{}
	for i, r := range l {
		for _, c := range changed(r) {
			if r.Gen == 0 && c.Gen == 0 && c.Subject == r.Subject && c.Body == r.Body {
				wantOpen(t, v, c, events[i])
				continue
			}
			want := openError(v, c)
			seen[want]++
			wantNoOpen(t, v, c, want)
		}
	}
	for _, e := range []api.Errno{api.ErrSpoilt, api.ErrMissing, api.ErrNone} {
		if seen[e] == 0 {
			t.Errorf("no record is told %v", e)
		}
	}
}

// TestOpenErrorsInOrder (7.2, P3): whether there is a key is told ahead of what is spoilt.
func TestOpenErrorsInOrder(t *testing.T) {
	v, _, l := some(t)
	for _, body := range []string{"", "x", l[0].Body, l[0].Body + "x", "gone ann", "gone cid", strings.Repeat("x", 70_000)} {
		for _, gen := range []int{math.MinInt, -1, 2, 3, math.MaxInt} {
			wantNoOpen(t, v, api.Record{Seq: 9, Subject: "ann", Gen: gen, Prev: None, Body: body}, api.ErrMissing)
		}
		for _, subject := range []string{"", "Ann", "eve", "ann ", "\xff", strings.Repeat("a", 70_000)} {
			wantNoOpen(t, v, api.Record{Seq: 9, Subject: subject, Gen: 1, Prev: None, Body: body}, api.ErrMissing)
		}
		wantNoOpen(t, v, api.Record{Seq: 9, Subject: "cid", Gen: 1, Prev: None, Body: body}, api.ErrNone)
		wantNoOpen(t, v, api.Record{Seq: 9, Subject: "cid", Gen: 2, Prev: None, Body: body}, api.ErrMissing)
		wantNoOpen(t, v, api.Record{Seq: 9, Subject: "ann", Gen: 1, Prev: None, Body: body}, api.ErrSpoilt)
	}
}

// TestOpenOfGenNought (7.2): a Gone of that Subject, written as it is printed, and nothing else.
func TestOpenOfGenNought(t *testing.T) {
	v, _, l := some(t)
	for _, body := range []string{"", " ", "gone", "gone ", "gone ann ", " gone ann", "gone  ann", "gone Ann", "Gone ann", "gone ann\n", "gone ann x", "gone bob", "gone an", "gone annn", "put ann t r v", "put ann t r ", "del ann t r", "put bob t r v", "del bob t r", "x", "\xff", "ann", l[0].Body, l[1].Body, strings.Repeat("gone ", 10_000)} {
		for _, subject := range []string{"ann", "eve", "", "Ann", "ann ", "ann x"} {
			if body != "gone "+subject || subject != "ann" {
				wantNoOpen(t, v, api.Record{Seq: 1, Subject: subject, Prev: None, Body: body}, api.ErrSpoilt)
			}
		}
	}
	for _, subject := range []string{"ann", "cid", "eve", "a", "z123456789"} {
		for _, seq := range []int{math.MinInt, -1, 0, 1, 101, math.MaxInt} {
			for _, prev := range []string{"", None, "any text"} {
				wantOpen(t, v, api.Record{Seq: seq, Subject: subject, Prev: prev, Body: "gone " + subject}, gone(subject))
			}
		}
	}
}

// TestOpenOfOtherTexts (7.2): what is sealed as it must be, and opens to a Gone, to no event, or to another Subject's.
func TestOpenOfOtherTexts(t *testing.T) {
	v, _, _ := some(t)
	gen, key, err := v.Make("ann")
	if err != nil {
		t.Fatal(err)
	}
	at := []api.Record{{Seq: 1, Subject: "ann", Gen: gen, Prev: None}, {Seq: math.MinInt, Subject: "ann", Gen: gen}, {Seq: 101, Subject: "ann", Gen: gen, Prev: strings.Repeat("p", 1000)}}
	for _, r := range at {
		for _, text := range []string{"gone ann", "gone bob", "", " ", "x", "put", "put ann", "put ann t r", "put ann t r " + longest + "u", "put Ann t r v", "del ann t r ", "del ann t", "PUT ann t r v", "put  ann t r v", "put ann t r \x7f", "put bob t r v", "put an t r v", "put annn t r v", "del bob t r", "put eve t ann v", strings.Repeat("x", api.MaxPlain)} {
			wantNoOpen(t, v, sealed(t, key, r, text), api.ErrSpoilt)
		}
		wantOpen(t, v, sealed(t, key, r, "put ann t r "), put("ann", "t", "r", ""))
		wantOpen(t, v, sealed(t, key, r, "put ann t r gone ann"), put("ann", "t", "r", "gone ann"))
		wantOpen(t, v, sealed(t, key, r, "del ann t r"), del("ann", "t", "r"))
	}
}

// TestNobodyElseReads (7.2): not by another subject's key, nor by a vault of another secret, nor by one that has no such key.
func TestNobodyElseReads(t *testing.T) {
	v, events, l := some(t)
	other, empty, same := mustVault(t, "0123456789abcdeF"), mustVault(t, secret), mustVault(t, secret)
	for _, s := range []string{"ann", "bob", "cid"} {
		other.Make(s)
		same.Make(s)
	}
	_, bobs, err := v.Make("bob")
	if err != nil {
		t.Fatal(err)
	}
	for i, r := range l {
		if r.Gen == 0 {
			continue
		}
		wantNoOpen(t, other, r, api.ErrSpoilt)
		wantNoOpen(t, empty, r, api.ErrMissing)
		wantNoOpen(t, &vault.Vault{}, r, api.ErrMissing)
		wantOpen(t, same, r, events[i])
		if r.Subject == "ann" {
			wantNoOpen(t, v, sealed(t, bobs, r, printed(t, events[i])), api.ErrSpoilt)
		}
	}
}

// TestOpenByNoVault (P1): no sentence asks for an answer there; it panics neither.
func TestOpenByNoVault(t *testing.T) {
	_, _, l := some(t)
	for _, r := range append(l, api.Record{}) {
		_, _ = Open(nil, r)
	}
}
