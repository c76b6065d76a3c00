package sum

import (
	"crypto/sha256"
	"encoding/binary"
	"encoding/hex"
	"math"
	"slices"
	"strings"
	"sync"
	"testing"

	"oubliette/api"
)

// bytesUpTo has n bytes, each value of a byte among them if n allows it.
func bytesUpTo(n int) string {
	out := make([]byte, n)
	for i := range out {
		out[i] = byte(255 - i*7)
	}
	return string(out)
}

func librarySum(s string) string {
	h := sha256.Sum256([]byte(s))
	return string(h[:])
}

// TestSumOfKnownTexts (1.1): sums that others have published.
func TestSumOfKnownTexts(t *testing.T) {
	cases := []struct{ text, want string }{
		{"", "e3b0c44298fc1c149afbf4c8996fb92427ae41e4649b934ca495991b7852b855"},
		{"abc", "ba7816bf8f01cfea414140de5dae2223b00361a396177a9cb410ff61f20015ad"},
		{"abcdbcdecdefdefgefghfghighijhijkijkljklmklmnlmnomnopnopq", "248d6a61d20638b8e5c026930c3e6039a33ce45964ff2167f6ecedd419db06c1"},
		{"abcdefghbcdefghicdefghijdefghijkefghijklfghijklmghijklmnhijklmnoijklmnopjklmnopqklmnopqrlmnopqrsmnopqrstnopqrstu", "cf5b16a778af8380036ce59e7b0492370b249b11e8f07a51afac45037afee9d1"},
		{strings.Repeat("a", 1_000_000), "cdc76e5c9914fb9281a1c7e284d73e67f1809a48a497200e046d39ccc7112cd0"},
	}
	for _, c := range cases {
		if got := hex.EncodeToString([]byte(Sum(c.text))); got != c.want {
			t.Errorf("Sum(%.20q), %d bytes: %s, want %s", c.text, len(c.text), got, c.want)
		}
	}
}

// TestSumAtEdges (1.1): sizes around those at which a text takes one block more.
func TestSumAtEdges(t *testing.T) {
	for _, n := range []int{0, 1, 54, 55, 56, 57, 62, 63, 64, 65, 118, 119, 120, 121, 127, 128, 129, 4096, 70_001} {
		for _, s := range []string{strings.Repeat("a", n), strings.Repeat("\x00", n), strings.Repeat("\xff", n), bytesUpTo(n)} {
			if got, want := Sum(s), librarySum(s); got != want {
				t.Errorf("Sum of %d bytes %.8q..: %x, want %x", n, s, got, want)
			}
		}
	}
}

// TestSumOfHighBytes (1.1, P5): texts are bytes, whether or not they are letters.
func TestSumOfHighBytes(t *testing.T) {
	for b := range 256 {
		s := string([]byte{byte(b)})
		if got, want := Sum(s), librarySum(s); got != want {
			t.Errorf("Sum(%q): %x, want %x", s, got, want)
		}
	}
	for _, s := range []string{"é", "\xe9", "\xc3", "日本", "\xff\xfe\x80"} {
		if got, want := Sum(s), librarySum(s); got != want {
			t.Errorf("Sum(%q): %x, want %x", s, got, want)
		}
	}
}

// TestHex (1.1): two digits a byte, small ones, noughts ahead kept.
func TestHex(t *testing.T) {
	cases := []struct{ text, want string }{
		{"", ""},
		{"\x00", "00"},
		{"\x09\x0a\x0f\x10", "090a0f10"},
		{"abc", "616263"},
		{"\x7f\x80\xab\xcd\xef\xff", "7f80abcdefff"},
		{"é", "c3a9"},
	}
	for _, c := range cases {
		if got := Hex(c.text); got != c.want {
			t.Errorf("Hex(%q): %q, want %q", c.text, got, c.want)
		}
	}
	all := bytesUpTo(256)
	if got, want := Hex(all), hex.EncodeToString([]byte(all)); got != want {
		t.Errorf("Hex of each byte: %s, want %s", got, want)
	}
}

// TestNum (1.1): eight bytes, the greatest first, two's complement.
func TestNum(t *testing.T) {
	cases := []struct {
		n    int
		want string
	}{
		{0, "\x00\x00\x00\x00\x00\x00\x00\x00"},
		{1, "\x00\x00\x00\x00\x00\x00\x00\x01"},
		{255, "\x00\x00\x00\x00\x00\x00\x00\xff"},
		{256, "\x00\x00\x00\x00\x00\x00\x01\x00"},
		{258, "\x00\x00\x00\x00\x00\x00\x01\x02"},
		{0x0102030405060708, "\x01\x02\x03\x04\x05\x06\x07\x08"},
		{1 << 32, "\x00\x00\x00\x01\x00\x00\x00\x00"},
		{-1, "\xff\xff\xff\xff\xff\xff\xff\xff"},
		{-2, "\xff\xff\xff\xff\xff\xff\xff\xfe"},
		{-256, "\xff\xff\xff\xff\xff\xff\xff\x00"},
		{-258, "\xff\xff\xff\xff\xff\xff\xfe\xfe"},
		{math.MaxInt, "\x7f\xff\xff\xff\xff\xff\xff\xff"},
		{math.MinInt, "\x80\x00\x00\x00\x00\x00\x00\x00"},
		{math.MinInt + 1, "\x80\x00\x00\x00\x00\x00\x00\x01"},
	}
	for _, c := range cases {
		if got := Num(c.n); got != c.want {
			t.Errorf("Num(%d): %x, want %x", c.n, got, c.want)
		}
	}
}

// wantMark is written apart from the program: from the library's sum and the library's order of bytes.
func wantMark(kind byte, parts ...string) string {
	text := []byte{kind}
	for _, p := range parts {
		text = binary.BigEndian.AppendUint64(text, uint64(len(p)))
		text = append(text, p...)
	}
	return librarySum(string(text))[:16]
}

// TestMark (1.1): without parts, with empty ones, long ones, kinds above 127.
func TestMark(t *testing.T) {
	lists := [][]string{
		nil,
		{},
		{""},
		{"", ""},
		{"a"},
		{"a", ""},
		{"", "a"},
		{"a", "b"},
		{"ab"},
		{"\xff\x80", "é", "\x00"},
		{strings.Repeat("a", 256), bytesUpTo(65)},
		{bytesUpTo(70_001)},
	}
	for _, kind := range []byte{0, 'x', 127, 128, 233, 255} {
		for _, parts := range lists {
			got, want := Mark(kind, parts...), wantMark(kind, parts...)
			if got != want || len(got) != api.MarkSize {
				t.Errorf("Mark(%q, %d parts %.40q): %x, want %x", kind, len(parts), parts, got, want)
			}
		}
	}
	if got, want := Mark('x'), Sum("x")[:16]; got != want {
		t.Errorf("Mark('x'): %x, want the beginning of Sum(\"x\"), %x", got, want)
	}
}

// TestMarkTellsApart (1.1): where one part ends and the next one begins is marked as well.
func TestMarkTellsApart(t *testing.T) {
	seen := map[string][]string{}
	for _, parts := range [][]string{nil, {""}, {"", ""}, {"abc"}, {"a", "bc"}, {"ab", "c"}, {"abc", ""}, {"", "abc"}, {"a", "b", "c"}, {Num(1) + "a"}, {"c", "ab"}} {
		m := Mark('x', parts...)
		if other, ok := seen[m]; ok {
			t.Errorf("Mark of %q is Mark of %q", parts, other)
		}
		seen[m] = parts
	}
	if Mark('x', "a") == Mark('y', "a") {
		t.Error("two kinds have one mark")
	}
}

// TestMarkLeavesItsParts (P4): neither the list nor what stands behind its length is written into.
func TestMarkLeavesItsParts(t *testing.T) {
	whole := []string{"a", "b", "behind", ""}
	before := slices.Clone(whole)
	Mark('x', whole[:2]...)
	if !slices.Equal(whole, before) {
		t.Errorf("the parts became %q", whole)
	}
}

// TestSameAgain (P4): an answer hangs on its arguments alone, whoever else asks meanwhile.
func TestSameAgain(t *testing.T) {
	s := bytesUpTo(300)
	want := Hex(Sum(s)) + Hex(Num(-7)) + Hex(Mark('k', s, s[:1]))
	got := make([]string, 8)
	var w sync.WaitGroup
	for i := range got {
		w.Go(func() {
			Sum(s[i:])
			got[i] = Hex(Sum(s)) + Hex(Num(-7)) + Hex(Mark('k', s, s[:1]))
		})
	}
	w.Wait()
	for i, g := range got {
		if g != want {
			t.Errorf("asked again (%d): %s, want %s", i, g, want)
		}
	}
}
