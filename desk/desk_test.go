package desk

import (
	"crypto/sha256"
	"encoding/hex"
	"strings"
	"testing"

	"oubliette/api"
	"oubliette/reader"
	"oubliette/vault"
)

// talk is a session: each line, and what it is answered.
type talk [][2]string

func (l talk) lines() string {
	out := ""
	for _, both := range l {
		out += both[0] + "\n"
	}
	return out
}

func (l talk) answers() string {
	out := ""
	for _, both := range l {
		out += both[1] + "\n"
	}
	return out
}

// wantTalk: each line is answered so; and the answers to the first lines are the beginning of the answers to all of them.
func wantTalk(t *testing.T, l talk) {
	t.Helper()
	got := strings.Split(Session(l.lines()), "\n")
	if len(got) != len(l)+1 || got[len(l)] != "" {
		t.Fatalf("%d answers to %d lines: %.300q", len(got)-1, len(l), got)
	}
	for i, both := range l {
		if got[i] != both[1] {
			t.Errorf("line %d, %.150q: %.400q, want %.400q", i+1, both[0], got[i], both[1])
		}
	}
	if t.Failed() {
		return
	}
	for i := range l {
		wantSession(t, l[:i+1].lines(), l[:i+1].answers())
	}
}

func wantSession(t *testing.T, text, want string) {
	t.Helper()
	if got := Session(text); got != want {
		t.Errorf("Session(%.300q): %.300q, want %.300q", text, got, want)
	}
}

// wantAlone: a session of that line alone.
func wantAlone(t *testing.T, asked, want string) {
	t.Helper()
	wantSession(t, asked, want+"\n")
}

// sumApart is `sum ..`, told apart from the program.
func sumApart(text string) string {
	h := sha256.Sum256([]byte(text))
	return "sum " + hex.EncodeToString(h[:])
}

// TestTooLong (11.1): no more than MaxText bytes; else it is `error 4` alone, whatever the lines are.
func TestTooLong(t *testing.T) {
	const most = 20_000
	wantSession(t, strings.Repeat("x", most), "error 3\n")
	wantSession(t, strings.Repeat("x", most+1), "error 4\n")
	wantSession(t, strings.Repeat("x", most-1)+"\n", "error 3\n")
	wantSession(t, strings.Repeat("x", most)+"\n", "error 4\n")
	wantSession(t, "\n"+strings.Repeat("x", most), "error 4\n")
	wantSession(t, strings.Repeat("\n", most), strings.Repeat("ok\n", most))
	wantSession(t, strings.Repeat("\n", most+1), "error 4\n")
	wantSession(t, strings.Repeat(" ", most), "ok\n")
	wantSession(t, strings.Repeat(" ", most+1), "error 4\n")
	wantSession(t, strings.Repeat("é", most/2), "error 3\n")
	wantSession(t, strings.Repeat("é", most/2+1), "error 4\n")
	wantSession(t, strings.Repeat("help\n", most/5), strings.Repeat(helpApart+"\n", most/5))
	wantSession(t, strings.Repeat("help\n", most/5)+"x", "error 4\n")
	wantSession(t, "sum "+strings.Repeat("x", most-4), sumApart(strings.Repeat("x", most-4))+"\n")
	wantSession(t, "sum "+strings.Repeat("x", most-3), "error 4\n")
	wantSession(t, strings.Repeat("x", 1<<20), "error 4\n")
}

// TestLines (11.1): one line feed at the end is left out, and no other one; the empty text is one line.
func TestLines(t *testing.T) {
	const help = helpApart + "\n"
	for text, want := range map[string]string{
		"":                   "ok\n",
		"\n":                 "ok\n",
		"\n\n":               "ok\nok\n",
		"\n\n\n":             "ok\nok\nok\n",
		"help":               help,
		"help\n":             help,
		"help\n\n":           help + "ok\n",
		"help\n\n\n":         help + "ok\nok\n",
		"\nhelp":             "ok\n" + help,
		"\n\nhelp\n":         "ok\nok\n" + help,
		"help\nhelp":         help + help,
		"help\n\nhelp":       help + "ok\n" + help,
		"help\n\n\nhelp\n":   help + "ok\nok\n" + help,
		"help\n \nx\nhelp ":  help + "ok\nerror 3\n" + help,
		"x\ny\n":             "error 3\nerror 3\n",
		"help\r\nhelp":       "error 3\n" + help,
		"help\n\r\nhelp":     help + "error 3\n" + help,
		"help\n\n ":          help + "ok\nok\n",
		"help\x00\nhelp":     "error 3\n" + help,
		"help\u2028help":     "error 3\n",
		"help\u0085\nhelp\n": "error 3\n" + help,
	} {
		wantSession(t, text, want)
	}
}

// TestBlanks (11.1): several of them, and at both ends, are as one; nothing else is a blank; a line of them alone has no words.
func TestBlanks(t *testing.T) {
	for _, asked := range []string{"", " ", "  ", strings.Repeat(" ", 999)} {
		wantAlone(t, asked, "ok")
		wantAlone(t, asked+"\n", "ok")
	}
	for _, asked := range []string{"sum a b", " sum a b", "sum a b ", "sum  a b", "sum a  b", "    sum      a     b     "} {
		wantAlone(t, asked, sumApart("a b"))
	}
	wantAlone(t, " help ", helpApart)
	wantAlone(t, "he lp", "error 3")
	for _, letter := range []string{"\t", "\r", "\v", "\f", "\x00", "\x1f", "\x7f", "_", "\xa0", "\xff", "\x80", "\u00a0", "\u0085", "\u0120", "\u2003", "\u2028", "\u3000", "\ufeff", "\u2420"} {
		wantAlone(t, letter, "error 3")
		wantAlone(t, "sum"+letter+"a", "error 3")
		wantAlone(t, letter+"sum a", "error 3")
		wantAlone(t, "sum a"+letter+"b  "+letter, sumApart("a"+letter+"b "+letter))
	}
}

// TestFirstWord (11.1): just one of those that are told.
func TestFirstWord(t *testing.T) {
	for _, word := range []string{"x", "ok", "error", "Help", "HELP", "hel", "helpp", "help,", "help.", "-help", "h", "new.", "News", "putt", "pu", "delete", "forget", "row", "cell", "subject", "sums", "marks", "..", "0", "1", "\x00", "\xff", "hélp", "he\x00lp", "\x00help", strings.Repeat("help", 1000)} {
		for _, behind := range []string{"", " a", " 1", " a 1", " ann t r", " ann t r v"} {
			wantAlone(t, word+behind, "error 3")
		}
	}
}

// TestWords (11.1): of each line just so many words as are told, with no one fewer and no one more.
func TestWords(t *testing.T) {
	any := []int{0, 1, 2, 3, 4, 5, 6}
	for word, sizes := range map[string][]int{
		"new": {1}, "cells": {0}, "read": {2}, "rows": {1}, "lost": {1}, "save": {1}, "load": {1}, "feed": {0},
		"wire": {1}, "subjects": {0}, "block": {2}, "sum": any, "help": {0},
		// Here any many are taken, and those that are no event are Parse's ErrForm.
		"put": {4, 5, 6}, "del": {3}, "gone": {1},
	} {
		right := map[int]bool{}
		for _, size := range sizes {
			right[size] = true
		}
		numbered := word == "read" || word == "wire" || word == "block"
		for _, size := range any {
			asked := word + strings.Repeat(" a", size)
			if numbered && size > 0 {
				asked = asked[:len(asked)-1] + "1"
			}
			if got := Session(asked); (got != "error 3\n") != right[size] {
				t.Errorf("%q: %q", asked, got)
			}
		}
	}
}

// TestNumbers (11.1, P5): decimal digits, perhaps - ahead, and no other form; of 64 bits; ErrForm, ahead of what the line itself tells.
func TestNumbers(t *testing.T) {
	right := []string{"0", "1", "9", "10", "100", "1000000007", "4294967296", "9223372036854775806", "9223372036854775807", "-1", "-9", "-10", "-9223372036854775807", "-9223372036854775808"}
	for _, n := range right {
		wantAlone(t, "read x "+n, "read 0")
		wantAlone(t, "wire "+n, "error 7")
		if got := Session("block x " + n); got == "error 3\n" {
			t.Errorf("block x %s: %q", n, got)
		}
	}
	wrong := []string{
		"-0", "00", "01", "-01", "-00", "007", "0000000000000000000000000001", "+1", "+0", "+", "-", "--1", "-+1", "+-1", "1-", "-1-",
		"9223372036854775808", "-9223372036854775809", "9223372036854775817", "10000000000000000000", "18446744073709551615", "18446744073709551616", "18446744073709551617", "-18446744073709551615", strings.Repeat("1", 1000), "-" + strings.Repeat("9", 1000),
		"a", "1a", "a1", "0x1", "0b1", "0o1", "1_0", "1_000", "1.0", "1.", ".1", "1e3", "1,0", "Inf", "NaN", "1\t", "\t1", "1\r", "1\x00", "\x001", "１", "٣", "²", "−1", "\xff", "1\xff",
	}
	for _, n := range wrong {
		wantAlone(t, "read x "+n, "error 3")
		wantAlone(t, "wire "+n, "error 3")
		wantAlone(t, "block x "+n, "error 3")
	}
	for _, asked := range []string{"read 1 x", "block 1 x", "read x", "read 1", "block x", "block 1", "wire"} {
		wantAlone(t, asked, "error 3")
	}
}

// TestEachForItself (11.1, P4): a session knows nothing of those ahead of it.
func TestEachForItself(t *testing.T) {
	l := talk{
		{"cells", "cells"}, {"feed", "feed"}, {"subjects", "subjects"}, {"rows x", "rows"}, {"lost x", "lost 0"}, {"load x", "error 1"}, {"wire 1", "error 7"}, {"gone ann", "error 8"},
		{"put ann t r v", "put 1 1 29"}, {"read x 1", "read 1"}, {"save x", "save 1"}, {"gone ann", "gone 2 0 8"}, {"put ann t r v", "put 3 2 29"},
	}
	for range 3 {
		wantTalk(t, l)
	}
}

// newDesk is a desk behind `put ann t r v` and `put ann t s w`.
func newDesk(t *testing.T) *desk {
	t.Helper()
	d := &desk{}
	d.orders = d.table()
	d.anew("")
	wantDesk(t, d, "put ann t r v", "put 1 1 29")
	wantDesk(t, d, "put ann t s w", "put 2 1 29")
	return d
}

func wantDesk(t *testing.T, d *desk, asked, want string) {
	t.Helper()
	if got := d.answer(asked); got != want {
		t.Errorf("%q: %q, want %q", asked, got, want)
	}
}

// TestReadEnds (11.1): Read's first error ends it, and is answered. No session of its own has a reader of which that could be true, so one is laid there.
func TestReadEnds(t *testing.T) {
	d := newDesk(t)
	strange, err := vault.New("0123456789abcdef")
	if err != nil {
		t.Fatal(err)
	}
	if d.readers["x"], err = reader.New(strange); err != nil {
		t.Fatal(err)
	}
	wantDesk(t, d, "read x 0", "read 0")
	wantDesk(t, d, "read x 1", "error 7")
	wantDesk(t, d, "read x 2", "error 7")
	wantDesk(t, d, "rows x", "rows")
	if d.readers["y"], err = reader.Load(d.source.Vault(), reader.Save{Seq: 1, Mark: "0123456789abcdef"}); err != nil {
		t.Fatal(err)
	}
	wantDesk(t, d, "read y 1", "read 1")
	wantDesk(t, d, "read y 2", "error 15")
	wantDesk(t, d, "read y 1", "read 1")
	if d.readers["z"], err = reader.New(d.source.Vault()); err != nil {
		t.Fatal(err)
	}
	wantDesk(t, d, "read z 9", "read 2")
}

// TestThrown (P1, P3): what is thrown leaves its line alone: an Errno is told, also out of a wrapping; and whatever else it were, nothing panics.
func TestThrown(t *testing.T) {
	d := newDesk(t)
	var none map[string]int
	d.orders["at"] = order{do: func(line) string { throw(&api.At{Err: api.ErrCycle, Place: 3}); return "" }}
	d.orders["word"] = order{do: func(line) string { panic("word") }}
	d.orders["write"] = order{do: func(line) string { none["a"] = 1; return "" }}
	d.orders["none"] = order{}
	wantDesk(t, d, "at", "error 11")
	wantDesk(t, d, "word", "error -1")
	wantDesk(t, d, "write", "error -1")
	wantDesk(t, d, "none", "error -1")
	wantDesk(t, d, "cells", "cells t.r:ann=v t.s:ann=w")
}
