package event

import (
	"errors"
	"math"
	"regexp"
	"strings"
	"testing"

	"oubliette/api"
)

// longest: a value of MaxValue bytes.
const longest = "abcdefghijklmnopqrst"

// noNames: what nobody, no table and no row may be called.
var noNames = []string{"", "abcdefghijk", "1", "1a", "Ann", "anN", " ", " ann", "ann ", "a b", "a  b", "a_b", "a-b", "a~", "a\x00", "a\n", "\n", "\x00", "\x80", "\xff", "é", "aé", "ａ", "a`", "a{", "a/", "a:", "A", "Z", strings.Repeat("a", 70_000)}

// noValues: what no row may have.
var noValues = []string{longest + "u", longest + " ", strings.Repeat(" ", 21), strings.Repeat("v", 70_000), "\x1f", "\x7f", "a\x1f", "\x1fa", "a\x7fb", "\t", "a\n", "\r", "\x00", "\x80", "\xff", "\xa0", "é", "Ġ", "～", "\u0120\u017e", "\ufffd", "a\xc3", strings.Repeat("é", 10), strings.Repeat("é", 20)}

// printed: events that may be, and how they are written.
var printed = []struct {
	event api.Event
	text  string
}{
	{put("ann", "mail", "box", "a b"), "put ann mail box a b"},
	{put("ann", "t", "r", "v"), "put ann t r v"},
	{put("ann", "t", "r", ""), "put ann t r "},
	{put("ann", "t", "r", " "), "put ann t r  "},
	{put("ann", "t", "r", "  "), "put ann t r   "},
	{put("ann", "t", "r", " x"), "put ann t r  x"},
	{put("ann", "t", "r", "x "), "put ann t r x "},
	{put("ann", "t", "r", " x "), "put ann t r  x "},
	{put("ann", "t", "r", "a  b"), "put ann t r a  b"},
	{put("ann", "t", "r", "a b c d e"), "put ann t r a b c d e"},
	{put("ann", "t", "r", "~"), "put ann t r ~"},
	{put("ann", "t", "r", " ~"), "put ann t r  ~"},
	{put("ann", "t", "r", `"\%s'`), `put ann t r "\%s'`},
	{put("ann", "t", "r", "A-Z 0-9 -0 +1"), "put ann t r A-Z 0-9 -0 +1"},
	{put("ann", "t", "r", longest), "put ann t r " + longest},
	{put("ann", "t", "r", strings.Repeat(" ", 20)), "put ann t r " + strings.Repeat(" ", 20)},
	{put("ann", "t", "r", "put ann t r v"), "put ann t r put ann t r v"},
	{put("ann", "ann", "ann", "ann"), "put ann ann ann ann"},
	{put("put", "del", "gone", "put"), "put put del gone put"},
	{put("a", "b", "c", "d"), "put a b c d"},
	{put("z123456789", "abcdefghij", "q0q0q0q0q0", longest), "put z123456789 abcdefghij q0q0q0q0q0 " + longest},
	{del("ann", "t", "r"), "del ann t r"},
	{del("bob", "mail", "box"), "del bob mail box"},
	{del("del", "put", "gone"), "del del put gone"},
	{del("z123456789", "abcdefghij", "q0q0q0q0q0"), "del z123456789 abcdefghij q0q0q0q0q0"},
	{gone("ann"), "gone ann"},
	{gone("a"), "gone a"},
	{gone("gone"), "gone gone"},
	{gone("z123456789"), "gone z123456789"},
}

func put(subject, table, row, value string) api.Event {
	return api.Event{Kind: api.Put, Subject: subject, Table: table, Row: row, Value: value}
}

func del(subject, table, row string) api.Event {
	return api.Event{Kind: api.Del, Subject: subject, Table: table, Row: row}
}

func gone(subject string) api.Event {
	return api.Event{Kind: api.Gone, Subject: subject}
}

// wantErrno: that error, without a place (P3).
func wantErrno(t *testing.T, what string, err error, want api.Errno) {
	t.Helper()
	if api.Tell(err) != want {
		t.Errorf("%.100s: %v, want %v", what, err, want)
	}
	var at *api.At
	if errors.As(err, &at) {
		t.Errorf("%.100s: the error has a place, %d", what, at.Place)
	}
}

// wantRight: it may be, and is written so.
func wantRight(t *testing.T, e api.Event, text string) {
	t.Helper()
	if !Right(e) {
		t.Errorf("Right(%+v): false", e)
	}
	if s, err := Print(e); s != text || err != nil {
		t.Errorf("Print(%+v): %q, %v, want %q", e, s, err, text)
	}
}

// wantWrong: it may not be, and is not written (P2).
func wantWrong(t *testing.T, e api.Event) {
	t.Helper()
	if Right(e) {
		t.Errorf("Right(%.100q of %d): true", e.Subject+","+e.Table+","+e.Row+","+e.Value, e.Kind)
	}
	s, err := Print(e)
	if s != "" {
		t.Errorf("Print of what may not be: %q beside %v", s, err)
	}
	wantErrno(t, "Print of what may not be", err, api.ErrArg)
}

func wantParse(t *testing.T, s string, want api.Event) {
	t.Helper()
	if e, err := Parse(s); e != want || err != nil {
		t.Errorf("Parse(%q): %+v, %v, want %+v", s, e, err, want)
	}
}

// wantNoParse: that error alone (P2).
func wantNoParse(t *testing.T, s string) {
	t.Helper()
	e, err := Parse(s)
	if e != (api.Event{}) {
		t.Errorf("Parse(%.100q): %+v beside %v", s, e, err)
	}
	wantErrno(t, "Parse("+s+")", err, api.ErrForm)
}

// TestPrinted (5.1): what may be is written as the document tells, and read as it was.
func TestPrinted(t *testing.T) {
	for _, c := range printed {
		wantRight(t, c.event, c.text)
		wantParse(t, c.text, c.event)
	}
}

// TestOtherKinds (5.1): none but the three, whatever else is told.
func TestOtherKinds(t *testing.T) {
	for _, kind := range []int{api.Put - 1, api.Gone + 1, -1, -2, -3, 5, 100, 255, 256, 257, 1 << 32, 1<<32 + 1, math.MaxInt, math.MinInt, math.MinInt + 1} {
		for _, c := range printed {
			e := c.event
			e.Kind = kind
			wantWrong(t, e)
		}
		wantWrong(t, api.Event{Kind: kind})
	}
}

// TestNoNames (5.1): subjects, tables and rows that are no Names.
func TestNoNames(t *testing.T) {
	for _, s := range noNames {
		wantWrong(t, put(s, "t", "r", "v"))
		wantWrong(t, put("ann", s, "r", "v"))
		wantWrong(t, put("ann", "t", s, "v"))
		wantWrong(t, put("ann", s, "r", ""))
		wantWrong(t, put("ann", "t", s, ""))
		wantWrong(t, del(s, "t", "r"))
		wantWrong(t, del("ann", s, "r"))
		wantWrong(t, del("ann", "t", s))
		wantWrong(t, gone(s))
	}
	for kind := api.Put; kind <= api.Gone; kind++ {
		wantWrong(t, api.Event{Kind: kind})
	}
}

// TestNoValues (5.1): of a Put, what is too long or has other bytes.
func TestNoValues(t *testing.T) {
	for _, s := range noValues {
		wantWrong(t, put("ann", "t", "r", s))
	}
}

// TestTooMuch (5.1): a Del has no value, a Gone its subject alone.
func TestTooMuch(t *testing.T) {
	for _, s := range append([]string{"v", " ", "a b", "~", longest}, noValues...) {
		e := del("ann", "t", "r")
		e.Value = s
		wantWrong(t, e)
		e = gone("ann")
		e.Value = s
		wantWrong(t, e)
		e = gone("ann")
		e.Table = s
		wantWrong(t, e)
		e = gone("ann")
		e.Row = s
		wantWrong(t, e)
	}
	for _, s := range []string{"t", "ann", "abcdefghij"} {
		wantWrong(t, api.Event{Kind: api.Gone, Subject: "ann", Table: s})
		wantWrong(t, api.Event{Kind: api.Gone, Subject: "ann", Row: s})
		wantWrong(t, api.Event{Kind: api.Gone, Subject: "ann", Table: s, Row: s})
		wantWrong(t, api.Event{Kind: api.Gone, Subject: "ann", Table: s, Row: s, Value: s})
	}
}

// TestValueOfEachByte (5.1, P5): alone, first, in the middle and last.
func TestValueOfEachByte(t *testing.T) {
	for b := range 256 {
		c := string([]byte{byte(b)})
		for _, v := range []string{c, c + "a", "a" + c, "a" + c + "b", c + c, c + longest[1:], longest[1:] + c} {
			e, text := put("ann", "t", "r", v), "put ann t r "+v
			if b >= 32 && b <= 126 {
				wantRight(t, e, text)
				wantParse(t, text, e)
				continue
			}
			wantWrong(t, e)
			wantNoParse(t, text)
		}
	}
}

// TestValueOfEachSize (5.1): up to MaxValue, of letters and of blanks.
func TestValueOfEachSize(t *testing.T) {
	for _, c := range []string{"v", " ", "~"} {
		for n := range 3 * api.MaxValue {
			v := strings.Repeat(c, n)
			e, text := put("ann", "t", "r", v), "put ann t r "+v
			if n <= api.MaxValue {
				wantRight(t, e, text)
				wantParse(t, text, e)
				continue
			}
			wantWrong(t, e)
			wantNoParse(t, text)
		}
	}
}

// TestParseWrongForms (5.1): texts as which no event that is Right is printed.
func TestParseWrongForms(t *testing.T) {
	for _, s := range []string{
		"", " ", "  ", "    ", "     ", "\n", "\x00", "~", "ann", "ann t r v",
		"put", "del", "gone", "put ", "del ", "gone ", "put  ", "gone  ", "put    ", "del   ", "put     ",
		"put ann", "put ann ", "put ann t", "put ann t ", "put ann t r", "put ann  r v", "put  t r v", "put ann t  v", "put ann t  ",
		"put ann  t r v", "put  ann t r v", "put ann t  r v", "put ann t  r",
		"del ann", "del ann ", "del ann t", "del ann t ", "del ann t r ", "del ann t r  ", "del ann t r x", "del ann t r x y",
		"del  ann t r", "del ann  t r", "del ann t  r", "del  t r", "del ann  r",
		"gone ann ", "gone ann  ", "gone ann   ", "gone ann x", "gone ann t r", "gone ann t r v", "gone  ann", "gone ann  x", "gone ann   x",
		" put ann t r v", " del ann t r", " gone ann", "  gone ann", "gone ann\n", "\ngone ann", "del ann t r\n", "put ann t r v\n",
		"Put ann t r v", "PUT ann t r v", "DEL ann t r", "Gone ann", "gon ann", "gonee ann", "pu ann t r v", "putt ann t r v", "dele ann t r",
		"get ann t r", "1 ann t r v", "2 ann t r", "3 ann", "0", "0 ann", "4 ann", "x ann t r v",
		"put\tann t r v", "put ann\tt r v", "gone\tann", "gone,ann", "gone\u00a0ann", "putann t r v", "goneann", "delann t r",
		"put ann t r v\x00", "gone ann\x00", "gone \xffann", "\xef\xbb\xbfgone ann",
		strings.Repeat(" ", 70_000), strings.Repeat("put ", 70_000), "gone " + strings.Repeat("a", 70_000),
	} {
		wantNoParse(t, s)
	}
}

// TestParseNoNames (5.1): each name in its turn is none.
func TestParseNoNames(t *testing.T) {
	for _, s := range noNames {
		wantNoParse(t, "del "+s+" t r")
		wantNoParse(t, "del ann "+s+" r")
		wantNoParse(t, "del ann t "+s)
		wantNoParse(t, "gone "+s)
		// A blank in a Put moves what is behind it on by a word, up to the value, which may have blanks.
		if !strings.Contains(s, " ") {
			wantNoParse(t, "put "+s+" t r v")
			wantNoParse(t, "put ann "+s+" r v")
			wantNoParse(t, "put ann t "+s+" v")
		}
	}
	wantParse(t, "put a b t r v", put("a", "b", "t", "r v"))
	wantParse(t, "put ann a b r v", put("ann", "a", "b", "r v"))
	wantParse(t, "put ann t a b v", put("ann", "t", "a", "b v"))
	wantParse(t, "put ann t ann  v", put("ann", "t", "ann", " v"))
}

// TestParseNoValues (5.1): a value that is too long, or has other bytes.
func TestParseNoValues(t *testing.T) {
	for _, s := range noValues {
		wantNoParse(t, "put ann t r "+s)
		wantNoParse(t, "put z123456789 abcdefghij q0q0q0q0q0 "+s)
	}
}

// formApart: what events are written as, told apart from the program.
var formApart = regexp.MustCompile(strings.ReplaceAll(`\A(?:put (N) (N) (N) ([ -~]{0,20})|del (N) (N) (N)|gone (N))\z`, "N", "[a-z][a-z0-9]{0,9}"))

// parseApart is what Parse is to answer, and whether there is an event.
func parseApart(s string) (api.Event, bool) {
	m := formApart.FindStringSubmatch(s)
	switch {
	case m == nil:
		return api.Event{}, false
	case m[1] != "":
		return put(m[1], m[2], m[3], m[4]), true
	case m[5] != "":
		return del(m[5], m[6], m[7]), true
	}
	return gone(m[8]), true
}

// wantAsApart: Parse answers what it is to, and what was read is printed just so.
func wantAsApart(t *testing.T, s string) bool {
	t.Helper()
	want, ok := parseApart(s)
	if !ok {
		wantNoParse(t, s)
		return false
	}
	wantParse(t, s, want)
	wantRight(t, want, s)
	return true
}

// TestParseOfFewWords (5.1): every text of up to six pieces, blanks among them.
func TestParseOfFewWords(t *testing.T) {
	pieces := []string{"put", "del", "gone", "a", "b1", "1", "X", ""}
	var grow func(s string, left int)
	read := 0
	grow = func(s string, left int) {
		if wantAsApart(t, s) {
			read++
		}
		if left == 0 {
			return
		}
		for _, p := range pieces {
			grow(s+" "+p, left-1)
		}
	}
	for _, p := range pieces {
		grow(p, 5)
	}
	if read < 1000 {
		t.Errorf("only %d texts were events", read)
	}
}

// TestParseOfChangedTexts (5.1): one byte put in, taken out or changed, at every place.
func TestParseOfChangedTexts(t *testing.T) {
	bytes := []string{"", " ", "a", "e", "p", "1", "A", "~", "\x1f", "\x7f", "\x80", "\n", "\x00"}
	for _, c := range printed {
		for i := range len(c.text) + 1 {
			for _, b := range bytes {
				wantAsApart(t, c.text[:i]+b+c.text[i:])
				if i < len(c.text) {
					wantAsApart(t, c.text[:i]+b+c.text[i+1:])
				}
			}
			wantAsApart(t, c.text[:i])
			wantAsApart(t, c.text[i:])
		}
	}
}

// draw: numbers that look drawn, the same each time.
type draw uint64

func (d *draw) below(most int) int {
	*d = *d*6364136223846793005 + 1442695040888963407
	return int(uint64(*d>>33) % uint64(most))
}

// drawnText has at most most letters of those.
func drawnText(d *draw, letters string, most int) string {
	out := make([]byte, d.below(most+1))
	for i := range out {
		out[i] = letters[d.below(len(letters))]
	}
	return string(out)
}

// drawnEvent may be, or not, about as often.
func drawnEvent(d *draw) api.Event {
	const names, values = "abcxyz", " !09AZaz}~"
	e := api.Event{Kind: d.below(6) - 1, Subject: drawnText(d, names, 11)}
	if e.Kind != api.Gone || d.below(4) == 0 {
		e.Table, e.Row = drawnText(d, names, 11), drawnText(d, names+"09", 11)
	}
	if e.Kind == api.Put || d.below(4) == 0 {
		e.Value = drawnText(d, values, 22)
	}
	if d.below(20) == 0 {
		e.Value += string([]byte{byte(d.below(256))})
	}
	return e
}

// nameApart and valueApart: 4.1's names and 5.1's values, told apart from the program.
var (
	nameApart  = regexp.MustCompile(`\A[a-z][a-z0-9]{0,9}\z`)
	valueApart = regexp.MustCompile(`\A[ -~]{0,20}\z`)
)

// rightApart is what Right is to answer.
func rightApart(e api.Event) bool {
	if !nameApart.MatchString(e.Subject) {
		return false
	}
	if e.Kind == 3 {
		return e.Table+e.Row+e.Value == ""
	}
	row := nameApart.MatchString(e.Table) && nameApart.MatchString(e.Row)
	return row && (e.Kind == 1 && valueApart.MatchString(e.Value) || e.Kind == 2 && e.Value == "")
}

// TestDrawnEvents (5.1): what may be is printed, and read as it was; nothing else is printed.
func TestDrawnEvents(t *testing.T) {
	d := draw(5)
	var seen [4]int
	for range 20_000 {
		e := drawnEvent(&d)
		if !rightApart(e) {
			wantWrong(t, e)
			seen[0]++
			continue
		}
		seen[e.Kind]++
		text, err := Print(e)
		if err != nil || !Right(e) {
			t.Errorf("Print(%+v): %q, %v", e, text, err)
		}
		wantParse(t, text, e)
		wantAsApart(t, text)
	}
	for kind, n := range seen {
		if n < 300 {
			t.Errorf("only %d events of kind %d were drawn", n, kind)
		}
	}
}

// TestNoTwoAlike (5.1): events that are other ones are written otherwise.
func TestNoTwoAlike(t *testing.T) {
	d := draw(7)
	of := map[string]api.Event{}
	for range 20_000 {
		e := drawnEvent(&d)
		text, err := Print(e)
		if err != nil {
			continue
		}
		if was, ok := of[text]; ok && was != e {
			t.Errorf("%q is both %+v and %+v", text, was, e)
		}
		of[text] = e
	}
}

// TestTellsTheSameAgain (P4): what is answered hangs on the arguments alone.
func TestTellsTheSameAgain(t *testing.T) {
	for range 2 {
		for i := len(printed) - 1; i >= 0; i-- {
			wantRight(t, printed[i].event, printed[i].text)
			wantNoParse(t, "")
			wantWrong(t, api.Event{})
			wantParse(t, printed[i].text, printed[i].event)
		}
	}
}
