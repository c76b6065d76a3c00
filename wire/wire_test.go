package wire

import (
	"bytes"
	"crypto/sha256"
	"encoding/binary"
	"encoding/hex"
	"errors"
	"fmt"
	"math"
	"slices"
	"strings"
	"testing"

	"oubliette/api"
)

const (
	none   = "\x00\x00\x00\x00\x00\x00\x00\x00\x00\x00\x00\x00\x00\x00\x00\x00"
	prev   = "0123456789abcdef"
	most   = 416 // bytes of the longest body: MaxPlain and 16
	ahead  = 16  // bytes of the mark that each record begins with
	seqAt  = 16  // where a record's number stands
	sizeAt = 17  // where its subject's size stands
	nameAt = 18  // where its subject begins
)

// noNames: what no subject may be called.
var noNames = []string{"", "abcdefghijk", "1", "1a", "Ann", "anN", " ", " ann", "ann ", "a b", "a_b", "a-b", "a\x00", "a\n", "\x00", "\xff", "é", "a`", "a{", "a/", "a:", strings.Repeat("a", 255), strings.Repeat("a", 256), strings.Repeat("a", 259), strings.Repeat("a", 70_000)}

// noNumbers: those below 0 or above MaxFeed; some of them would be right ones, were they cut to a byte or to four.
var noNumbers = []int{-1, -2, -100, -255, -256, -155, 101, 102, 127, 128, 200, 255, 256, 257, 300, 356, 1<<16 + 1, 1 << 32, 1<<32 + 1, math.MaxInt, math.MaxInt - 1, math.MinInt, math.MinInt + 1}

func record(seq int, subject string, gen int, prev, body string) api.Record {
	return api.Record{Seq: seq, Subject: subject, Gen: gen, Prev: prev, Body: body}
}

// usual is a record that may be, of which tests change a part.
func usual() api.Record { return record(7, "ann", 3, prev, "body") }

// letters are so many bytes, of which no two neighbours are the same.
func letters(size int) string {
	out := make([]byte, size)
	for i := range out {
		out[i] = byte(i*7 + i>>8)
	}
	return string(out)
}

// some records that may be, at the edges of what may be.
func some() []api.Record {
	every := letters(256)
	return []api.Record{
		usual(),
		record(1, "a", 0, none, ""),
		record(2, "ann", 1, markApart(record(1, "a", 0, none, "")), "gone ann"),
		record(100, "z123456789", 100, prev, letters(most)),
		record(100, "abcdefghij", 0, strings.Repeat("\xff", 16), strings.Repeat("\xff", most)),
		record(1, "x1", 100, every[240:], every),
		record(10, "b", 13, strings.Repeat("\n", 16), "\x00"),
		record(32, "q0", 32, every[:16], letters(255)),
		record(99, "eve", 99, "                ", letters(257)),
		record(3, "ann", 1, none, none),
	}
}

// markApart is a record's mark (7.1), told apart from the program.
func markApart(r api.Record) string {
	num := func(n int) string { return string(binary.BigEndian.AppendUint64(nil, uint64(n))) }
	text := "r"
	for _, part := range []string{num(r.Seq), r.Subject, num(r.Gen), r.Prev, r.Body} {
		text += num(len(part)) + part
	}
	h := sha256.Sum256([]byte(text))
	return string(h[:16])
}

// restApart is all behind the mark, of any record, also of one that may not be: each number is cut to its bytes.
func restApart(r api.Record) string {
	var b bytes.Buffer
	for _, part := range []any{uint8(r.Seq), uint8(len(r.Subject)), []byte(r.Subject), uint8(r.Gen), []byte(r.Prev), uint16(len(r.Body)), []byte(r.Body)} {
		if err := binary.Write(&b, binary.BigEndian, part); err != nil {
			panic(err)
		}
	}
	return b.String()
}

// writeApart is what 10.1 says of Write, told apart from the program.
func writeApart(r api.Record) string { return markApart(r) + restApart(r) }

func joined(l []api.Record) string {
	out := ""
	for _, r := range l {
		out += writeApart(r)
	}
	return out
}

func fromHex(t *testing.T, s string) string {
	t.Helper()
	b, err := hex.DecodeString(s)
	if err != nil {
		t.Fatal(err)
	}
	return string(b)
}

// changed is a text with one byte another one.
func changed(s string, at int, to byte) string {
	b := []byte(s)
	b[at] = to
	return string(b)
}

// wantErrno: that error, without a place (P3).
func wantErrno(t *testing.T, what string, err error, want api.Errno) {
	t.Helper()
	if api.Tell(err) != want {
		t.Errorf("%.200q: %v, want %v", what, err, want)
	}
	var at *api.At
	if errors.As(err, &at) {
		t.Errorf("%.200q: the error has a place, %d", what, at.Place)
	}
}

// wantRight: it may be, is written as 10.1 says, and read as it was.
func wantRight(t *testing.T, r api.Record) {
	t.Helper()
	if !Right(r) {
		t.Errorf("Right(%.200q): false", fmt.Sprint(r))
	}
	s, err := Write(r)
	if s != writeApart(r) || err != nil {
		t.Errorf("Write(%.200q): %x, %v, want %x", fmt.Sprint(r), s, err, writeApart(r))
	}
	wantParse(t, s, r)
}

// wantWrong: it may not be, is not written (P2), and what would be its bytes is not read.
func wantWrong(t *testing.T, r api.Record) {
	t.Helper()
	if Right(r) {
		t.Errorf("Right(%.200q): true", fmt.Sprint(r))
	}
	s, err := Write(r)
	if s != "" {
		t.Errorf("Write(%.200q): %.100x beside %v", fmt.Sprint(r), s, err)
	}
	wantErrno(t, fmt.Sprintf("Write(%v)", r), err, api.ErrArg)
	wantNoParse(t, writeApart(r))
}

func wantParse(t *testing.T, s string, want api.Record) {
	t.Helper()
	if r, err := Parse(s); r != want || err != nil {
		t.Errorf("Parse(%.200x): %+v, %v, want %+v", s, r, err, want)
	}
}

// wantNoParse: that error alone (P2).
func wantNoParse(t *testing.T, s string) {
	t.Helper()
	r, err := Parse(s)
	if r != (api.Record{}) {
		t.Errorf("Parse(%.200x): %+v beside %v", s, r, err)
	}
	wantErrno(t, "Parse("+s+")", err, api.ErrForm)
}

// wantAll: those records, and just so many bytes as they take.
func wantAll(t *testing.T, s string, want ...api.Record) {
	t.Helper()
	l, n := All(s)
	if !slices.Equal(l, want) || n != len(joined(want)) {
		t.Errorf("All(%.200x): %d records in %d bytes, want %d in %d: %.200q, want %.200q", s, len(l), n, len(want), len(joined(want)), fmt.Sprint(l), fmt.Sprint(want))
	}
}

// TestBytes (10.1): bytes that were worked out apart from the program.
func TestBytes(t *testing.T) {
	first := "84492f24a0d10b2b45c68b2c55f51b0d" + "01" + "01" + "61" + "00" + "00000000000000000000000000000000" + "0000"
	second := "d4c4c4e418f50d5073c2e6e5bfff23b7" + "02" + "03" + "616e6e" + "01" + "84492f24a0d10b2b45c68b2c55f51b0d" + "0008" + "676f6e6520616e6e"
	last := "f71e3cb571cb8f54da3d6c1d475c17ed" + "64" + "0a" + "7a313233343536373839" + "64" + "30313233343536373839616263646566" + "01a0" + strings.Repeat("62", most)
	a := record(1, "a", 0, none, "")
	b := record(2, "ann", 1, fromHex(t, first)[:16], "gone ann")
	c := record(100, "z123456789", 100, prev, strings.Repeat("b", most))
	for digits, r := range map[string]api.Record{first: a, second: b, last: c} {
		want := fromHex(t, digits)
		if s, err := Write(r); s != want || err != nil {
			t.Errorf("Write(%+v): %x, %v, want %x", r, s, err, want)
		}
		wantParse(t, want, r)
	}
	wantAll(t, fromHex(t, first+second+last), a, b, c)
}

// TestRight (10.1): what may be is written and read as it was.
func TestRight(t *testing.T) {
	for _, r := range some() {
		wantRight(t, r)
	}
	wantWrong(t, api.Record{})
}

// TestSeq (10.1): from 1 to MaxFeed.
func TestSeq(t *testing.T) {
	r := usual()
	for seq := 1; seq <= api.MaxFeed; seq++ {
		r.Seq = seq
		wantRight(t, r)
	}
	for _, seq := range append([]int{0}, noNumbers...) {
		r.Seq = seq
		wantWrong(t, r)
	}
}

// TestGen (10.1): from 0 to MaxFeed.
func TestGen(t *testing.T) {
	r := usual()
	for gen := 0; gen <= api.MaxFeed; gen++ {
		r.Gen = gen
		wantRight(t, r)
	}
	for _, gen := range noNumbers {
		r.Gen = gen
		wantWrong(t, r)
	}
}

// TestSubject (10.1): a Name of each size, and what is none.
func TestSubject(t *testing.T) {
	r := usual()
	for size := 1; size <= api.MaxName; size++ {
		for _, name := range []string{"abcdefghij", "z987654321", "aaaaaaaaaa"} {
			r.Subject = name[:size]
			wantRight(t, r)
		}
	}
	for _, s := range noNames {
		r.Subject = s
		wantWrong(t, r)
	}
}

// TestPrev (10.1): just 16 bytes, whichever they are.
func TestPrev(t *testing.T) {
	r := usual()
	for b := range 256 {
		r.Prev = strings.Repeat(string([]byte{byte(b)}), 16)
		wantRight(t, r)
	}
	for _, size := range []int{0, 1, 8, 15, 17, 18, 32, 256, 272, 70_000} {
		r.Prev = letters(size)
		wantWrong(t, r)
	}
}

// TestBody (10.1): of each size up to MaxPlain and 16, and of one more.
func TestBody(t *testing.T) {
	r := usual()
	for size := range most + 1 {
		r.Body = letters(size)
		wantRight(t, r)
	}
	for _, size := range []int{most + 1, most + 2, 511, 512, 1 << 15, 1<<16 - 1, 1 << 16, 1<<16 + 1, 1<<16 + most} {
		r.Body = letters(size)
		wantWrong(t, r)
	}
}

// TestSeveralWrong (10.1, P2): whatever else is wrong, too.
func TestSeveralWrong(t *testing.T) {
	for _, r := range []api.Record{
		{Seq: 1}, {Seq: 1, Subject: "ann"}, {Subject: "ann", Prev: prev}, {Seq: 1, Prev: prev}, {Seq: 1, Gen: 1, Prev: prev, Body: "b"},
		record(0, "", -1, "", letters(most+1)), record(101, "Ann", 101, "x", letters(most+1)), record(-1, "ann", -1, prev, ""),
	} {
		wantWrong(t, r)
	}
}

// TestMark (10.1, 7.1): the mark ahead hangs on each part; with another record's one it is none.
func TestMark(t *testing.T) {
	l := some()
	for i, r := range l {
		for j, other := range l {
			s := markApart(other) + restApart(r)
			if i == j {
				wantParse(t, s, r)
			} else {
				wantNoParse(t, s)
				wantAll(t, s)
			}
		}
		for _, mark := range []string{none, r.Prev, prev + "x", strings.Repeat("\xff", 16), "", markApart(r)[:15], markApart(r) + "\x00", "\x00" + markApart(r)} {
			wantNoParse(t, mark+restApart(r))
		}
	}
}

// TestBeginnings (10.1): of each beginning no record is there wholly.
func TestBeginnings(t *testing.T) {
	wantNoParse(t, "")
	for _, r := range some() {
		s := writeApart(r)
		for i := range len(s) {
			wantNoParse(t, s[:i])
			wantAll(t, s[:i])
			if i > 0 {
				wantNoParse(t, s[i:])
				wantAll(t, s[i:])
			}
		}
	}
}

// TestMore (10.1): Parse wants nothing behind it; All does not take it.
func TestMore(t *testing.T) {
	for _, r := range some() {
		s := writeApart(r)
		for _, more := range []string{"\x00", "x", " ", "\n", none, s[:1], s[:len(s)-1], strings.Repeat("\xff", 70_000), strings.Repeat("\x00", 70_000)} {
			wantNoParse(t, s+more)
			wantNoParse(t, more+s)
			wantAll(t, s+more, r)
			wantAll(t, more+s)
		}
		wantNoParse(t, s+s)
		wantAll(t, s+s, r, r)
	}
}

// TestEachByte (10.1): with one byte another one, whichever, it is none.
func TestEachByte(t *testing.T) {
	for _, r := range some()[:3] {
		s := writeApart(r)
		for i := range len(s) {
			for b := range 256 {
				if byte(b) == s[i] {
					continue
				}
				wantNoParse(t, changed(s, i, byte(b)))
				wantAll(t, changed(s, i, byte(b)))
			}
			wantNoParse(t, s[:i]+s[i+1:])
			wantNoParse(t, s[:i]+"\x00"+s[i:])
		}
	}
	for _, r := range some() {
		s := writeApart(r)
		for i := range len(s) {
			wantNoParse(t, changed(s, i, s[i]^1))
			wantNoParse(t, changed(s, i, s[i]^0x80))
		}
	}
}

// TestSizes (10.1): a size that is told must be what is there, though the mark would be that of the parts.
func TestSizes(t *testing.T) {
	for i, r := range some() {
		s := writeApart(r)
		for size := range 256 {
			if size != len(r.Subject) {
				wantNoParse(t, changed(s, sizeAt, byte(size)))
			}
		}
		at := nameAt + len(r.Subject) + 1 + 16
		sizes := 600
		if i == 0 {
			sizes = 1 << 16
		}
		for size := range sizes {
			if size != len(r.Body) {
				wantNoParse(t, s[:at]+string([]byte{byte(size >> 8), byte(size)})+s[at+2:])
			}
		}
		if len(r.Body)%257 != 0 {
			wantNoParse(t, s[:at]+s[at+1:at+2]+s[at:at+1]+s[at+2:]) // the smaller one first
		}
	}
}

// TestNotRight (10.1): the mark is the record's, but the record may not be: beginning with it is beginning with none.
func TestNotRight(t *testing.T) {
	good := usual()
	for _, seq := range []int{0, 101, 128, 255} {
		r := good
		r.Seq = seq
		wantNotRight(t, r)
	}
	for _, gen := range []int{101, 128, 255} {
		r := good
		r.Gen = gen
		wantNotRight(t, r)
	}
	for _, s := range noNames {
		r := good
		r.Subject = s
		wantNotRight(t, r)
	}
	for _, size := range []int{most + 1, 512, 1<<16 - 1} {
		r := good
		r.Body = letters(size)
		wantNotRight(t, r)
	}
}

func wantNotRight(t *testing.T, r api.Record) {
	t.Helper()
	s, good := writeApart(r), usual()
	wantNoParse(t, s)
	wantAll(t, s)
	wantAll(t, s+writeApart(good))
	wantAll(t, writeApart(good)+s+writeApart(good), good)
}

// TestCutNumbers (10.1): a record whose numbers are right once they are cut to a byte, and whose mark is of those that are not cut, is none.
func TestCutNumbers(t *testing.T) {
	for _, by := range []int{256, 512, -256, 1 << 32} {
		r := usual()
		r.Seq += by
		wantNoParse(t, writeApart(r))
		r = usual()
		r.Gen += by
		wantNoParse(t, writeApart(r))
	}
	if s := writeApart(usual()); s[seqAt] != 7 || s[sizeAt] != 3 || s[nameAt:nameAt+3] != "ann" || s[:ahead] != markApart(usual()) {
		t.Errorf("the tests' own bytes: %x", s)
	}
}
