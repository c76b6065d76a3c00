package desk

import (
	"encoding/hex"
	"regexp"
	"slices"
	"sort"
	"strconv"
	"strings"
	"testing"

	"oubliette/api"
	"oubliette/feed"
	"oubliette/source"
	"oubliette/wire"
)

// draw: numbers that look drawn, the same each time.
type draw uint64

func (d *draw) below(most int) int {
	*d = *d*6364136223846793005 + 1442695040888963407
	return int(uint64(*d>>33) % uint64(most))
}

func (d *draw) of(l ...string) string { return l[d.below(len(l))] }

// The forms of lines, told apart from the program.
var (
	putForm    = regexp.MustCompile(`^put ([a-z][a-z0-9]{0,9}) ([a-z][a-z0-9]{0,9}) ([a-z][a-z0-9]{0,9}) ([ -~]{1,20})$`)
	delForm    = regexp.MustCompile(`^del ([a-z][a-z0-9]{0,9}) ([a-z][a-z0-9]{0,9}) ([a-z][a-z0-9]{0,9})$`)
	goneForm   = regexp.MustCompile(`^gone ([a-z][a-z0-9]{0,9})$`)
	newForm    = regexp.MustCompile(`^new ([^ ]+)$`)
	readForm   = regexp.MustCompile(`^read ([^ ]+) (0|-?[1-9][0-9]{0,17})$`)
	wireForm   = regexp.MustCompile(`^wire (0|-?[1-9][0-9]{0,17})$`)
	readerForm = regexp.MustCompile(`^(rows|lost|save|load) ([^ ]+)$`)
	aloneForm  = regexp.MustCompile(`^(cells|feed|subjects)$`)
)

// follower is a reader: what it could open, one by one.
type follower struct {
	read, lost int
	seen       []api.Event
}

// telling is what the chapter says of a session, told apart from the program: from the events that were done since the last `new`. It has a source for records' bytes alone.
type telling struct {
	bytes     *source.Source
	done      []api.Event
	followers map[string]follower
	kept      *follower
}

func newTelling(word string) *telling {
	s, err := source.New(secretApart(word))
	if err != nil {
		panic(err)
	}
	return &telling{bytes: s, followers: map[string]follower{}}
}

// gones is how often a subject was forgotten.
func gones(l []api.Event, subject string) int {
	n := 0
	for _, e := range l {
		if e.Kind == api.Gone && e.Subject == subject {
			n++
		}
	}
	return n
}

// left are the Puts behind which neither another one, nor a Del, nor a Gone takes the row away, by table, then row.
func left(l []api.Event) []api.Event {
	var out []api.Event
	for i, e := range l {
		over := slices.ContainsFunc(l[i+1:], func(o api.Event) bool {
			same := o.Table == e.Table && o.Row == e.Row
			return o.Kind == api.Put && same || o.Subject == e.Subject && (o.Kind == api.Gone || o.Kind == api.Del && same)
		})
		if e.Kind == api.Put && !over {
			out = append(out, e)
		}
	}
	sort.Slice(out, func(i, j int) bool {
		return out[i].Table < out[j].Table || out[i].Table == out[j].Table && out[i].Row < out[j].Row
	})
	return out
}

func cellsApart(word string, l []api.Event) string {
	for _, e := range left(l) {
		word += " " + e.Table + "." + e.Row + ":" + e.Subject + "=" + strings.Join(strings.Split(e.Value, " "), "_")
	}
	return word
}

// keyed: a subject has a key, as it is told of behind its last Gone.
func (w *telling) keyed(subject string) bool {
	for _, e := range slices.Backward(w.done) {
		if e.Subject == subject {
			return e.Kind != api.Gone
		}
	}
	return false
}

func (w *telling) happen(asked string, e api.Event) string {
	owner := ""
	for _, o := range left(w.done) {
		if o.Table == e.Table && o.Row == e.Row {
			owner = o.Subject
		}
	}
	switch {
	case e.Kind == api.Put && owner != "" && owner != e.Subject:
		return "error 13"
	case e.Kind == api.Del && owner != e.Subject:
		return "error 7"
	case len(w.done) == 100:
		return "error 12"
	case e.Kind == api.Gone && !w.keyed(e.Subject):
		return "error 8"
	}
	gen, size := 0, len(asked)
	if e.Kind != api.Gone {
		gen, size = gones(w.done, e.Subject)+1, size+16
	}
	w.done = append(w.done, e)
	if _, err := w.bytes.Do(e); err != nil {
		panic(err)
	}
	return strings.Fields(asked)[0] + " " + strconv.Itoa(len(w.done)) + " " + strconv.Itoa(gen) + " " + strconv.Itoa(size)
}

// lost: behind what was done, a subject was forgotten once more.
func (w *telling) lost(at int) bool {
	e := w.done[at]
	return e.Kind != api.Gone && gones(w.done[at:], e.Subject) > 0
}

func (w *telling) read(name string, upto int) string {
	f := w.followers[name]
	f.seen = slices.Clone(f.seen)
	for f.read < min(upto, len(w.done)) {
		if w.lost(f.read) {
			f.lost++
		} else {
			f.seen = append(f.seen, w.done[f.read])
		}
		f.read++
	}
	w.followers[name] = f
	return "read " + strconv.Itoa(f.read)
}

func (w *telling) ofReader(word, name string) string {
	f := w.followers[name]
	switch word {
	case "rows":
		return cellsApart(word, f.seen)
	case "lost":
		return "lost " + strconv.Itoa(f.lost)
	case "save":
		w.kept = &f
		return "save " + strconv.Itoa(f.read)
	}
	if w.kept == nil {
		return "error 1"
	}
	w.followers[name] = *w.kept
	return "load " + strconv.Itoa(w.kept.read)
}

func (w *telling) alone(word string) string {
	switch word {
	case "cells":
		return cellsApart(word, w.done)
	case "feed":
		for _, r := range w.bytes.Feed() {
			word += " " + hex.EncodeToString([]byte(feed.Mark(r)))[:8]
		}
		return word
	}
	var l []string
	for _, e := range w.done {
		if w.keyed(e.Subject) {
			l = append(l, " "+e.Subject)
		}
	}
	sort.Strings(l)
	return word + strings.Join(slices.Compact(l), "")
}

func (w *telling) wire(n int) string {
	l := w.bytes.Feed()
	if n < 1 || n > len(l) {
		return "error 7"
	}
	s, err := wire.Write(l[n-1])
	if err != nil {
		panic(err)
	}
	return "wire " + hex.EncodeToString([]byte(s))
}

// answer is a line's, of a text without a line feed.
func (w *telling) answer(asked string) string {
	asked = strings.Trim(regexp.MustCompile(` +`).ReplaceAllString(asked, " "), " ")
	if asked == "" {
		return "ok"
	}
	if asked == "help" {
		return helpApart
	}
	if asked == "sum" || strings.HasPrefix(asked, "sum ") {
		return sumApart(strings.TrimPrefix(asked[3:], " "))
	}
	if m := newForm.FindStringSubmatch(asked); m != nil {
		*w = *newTelling(m[1])
		return "new"
	}
	if m := putForm.FindStringSubmatch(asked); m != nil {
		return w.happen(asked, api.Event{Kind: api.Put, Subject: m[1], Table: m[2], Row: m[3], Value: m[4]})
	}
	if m := delForm.FindStringSubmatch(asked); m != nil {
		return w.happen(asked, api.Event{Kind: api.Del, Subject: m[1], Table: m[2], Row: m[3]})
	}
	if m := goneForm.FindStringSubmatch(asked); m != nil {
		return w.happen(asked, api.Event{Kind: api.Gone, Subject: m[1]})
	}
	if m := readForm.FindStringSubmatch(asked); m != nil {
		n, _ := strconv.Atoi(m[2])
		return w.read(m[1], n)
	}
	if m := wireForm.FindStringSubmatch(asked); m != nil {
		n, _ := strconv.Atoi(m[1])
		return w.wire(n)
	}
	if m := readerForm.FindStringSubmatch(asked); m != nil {
		return w.ofReader(m[1], m[2])
	}
	if m := aloneForm.FindStringSubmatch(asked); m != nil {
		return w.alone(asked)
	}
	return "error 3"
}

// drawnLine is one that may be, mostly.
func drawnLine(d *draw) string {
	subject, row := d.of("ann", "ann", "bob", "bob", "eve"), d.of("t r", "t s", "u r", "u q", "t1 r")
	reader := d.of("x", "x", "y", "z", "\xff")
	number := d.of("0", "1", "2", "3", "5", "8", "20", "99", "100", "-1", "-7", "123456789012345678", "01", "-0", "+1", "-", "1x")
	switch k := d.below(24); {
	case k < 10:
		return "put " + subject + " " + row + " " + d.of("v", "a b", "a  b", "x y z", longest, "~", "_", longest+"u", "\x7f", "")
	case k < 12:
		return "del " + subject + " " + row + d.of("", "", "", "", " v")
	case k < 13:
		return "gone " + subject + d.of("", "", "", "", " x")
	case k < 17:
		return "read " + reader + " " + number
	case k < 20:
		return d.of("rows", "rows", "lost", "save", "load") + " " + reader + d.of("", "", "", "", " x")
	case k < 21:
		return "wire " + number
	case k < 23:
		return d.of("cells", "feed", "subjects", "help", "sum", "sum a b") + d.of("", "", "", "", " x")
	case d.below(6) == 0:
		return "new " + reader
	}
	return d.of("", " ", "\t", "x", "put", "read x", "new", "new a b", "Help", "cells\r")
}

// blanked has more blanks between its words, and at both ends, now and then.
func blanked(d *draw, asked string) string {
	if d.below(8) > 0 {
		return asked
	}
	return strings.Repeat(" ", d.below(3)) + strings.ReplaceAll(asked, " ", strings.Repeat(" ", 1+d.below(4))) + strings.Repeat(" ", d.below(3))
}

// TestDrawnSessions (11.1): each line is answered as it is told apart; the answers to the first lines are the beginning of the answers to all.
func TestDrawnSessions(t *testing.T) {
	d := draw(11)
	for range 150 {
		w := newTelling("")
		text, want := "", ""
		var texts, wants []string
		for range 1 + d.below(300) {
			asked := blanked(&d, drawnLine(&d))
			text, want = text+asked+"\n", want+w.answer(asked)+"\n"
			texts, wants = append(texts, text), append(wants, want)
		}
		wantSession(t, text, want)
		for range 10 {
			i := d.below(len(texts))
			wantSession(t, texts[i], wants[i])
			// Without its line feed a last line that is empty would be none.
			if !strings.HasSuffix(texts[i], "\n\n") {
				wantSession(t, strings.TrimSuffix(texts[i], "\n"), wants[i])
			}
		}
		if t.Failed() {
			return
		}
	}
}

// TestFullSessions (11.1): likewise, of sessions that fill their feed.
func TestFullSessions(t *testing.T) {
	d := draw(12)
	for range 20 {
		w := newTelling("")
		text, want := "", ""
		for behind := 0; behind < 60; {
			asked := drawnLine(&d)
			if strings.HasPrefix(asked, "new ") {
				continue
			}
			if len(w.done) == 100 {
				behind++
			}
			text, want = text+asked+"\n", want+w.answer(asked)+"\n"
		}
		wantSession(t, text, want)
		if t.Failed() {
			return
		}
	}
}

// linesApart is how many lines a text has, told apart from the program.
func linesApart(text string) int {
	n := strings.Count(text, "\n")
	if text == "" || text[len(text)-1] != '\n' {
		n++
	}
	return n
}

// TestAnyBytes (P1): whatever a text is, each of its lines has an answer of one line.
func TestAnyBytes(t *testing.T) {
	const letters = "\n\n  \x00\xff\t1-aé"
	d := draw(13)
	for range 300 {
		var b []byte
		for range d.below(400) {
			b = append(b, letters[d.below(len(letters))])
			if d.below(4) == 0 {
				b = append(b, drawnLine(&d)...)
			}
			if d.below(9) == 0 {
				b = append(b, byte(d.below(256)))
			}
		}
		got := Session(string(b))
		if strings.Count(got, "\n") != linesApart(string(b)) || !strings.HasSuffix(got, "\n") {
			t.Errorf("%d lines are answered %q: %q", linesApart(string(b)), got, b)
		}
	}
}
