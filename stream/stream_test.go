package stream

import (
	"encoding/hex"
	"math"
	"math/big"
	"strings"
	"sync"
	"testing"

	"oubliette/api"
)

const (
	countedKey  = "\x00\x01\x02\x03\x04\x05\x06\x07\x08\x09\x0a\x0b\x0c\x0d\x0e\x0f\x10\x11\x12\x13\x14\x15\x16\x17\x18\x19\x1a\x1b\x1c\x1d\x1e\x1f"
	blockNonce  = "\x00\x00\x00\x09\x00\x00\x00\x4a\x00\x00\x00\x00"
	textNonce   = "\x00\x00\x00\x00\x00\x00\x00\x4a\x00\x00\x00\x00"
	sunscreen   = "Ladies and Gentlemen of the class of '99: If I could offer you only one tip for the future, sunscreen would be it."
	highestNum  = 1<<32 - 1
	sunscreened = "6e2e359a2568f98041ba0728dd0d6981" +
		"e97e7aec1d4360c20a27afccfd9fae0b" +
		"f91b65c5524733ab8f593dabcd62b357" +
		"1639d624e65152ab8f530c359f0861d8" +
		"07ca0dbf500d6a6156a38e088a22b65e" +
		"52bc514d16ccf806818ce91ab7793736" +
		"5af90bbf74a35be6b40b8eedf2785e42" +
		"874d"
)

// varied has n bytes, each value of a byte among them if n allows it.
func varied(n int) string {
	out := make([]byte, n)
	for i := range out {
		out[i] = byte(251 - i*7)
	}
	return string(out)
}

// mustBlock is a block that may be asked for.
func mustBlock(t *testing.T, key string, n int, nonce string) string {
	t.Helper()
	b, err := Block(key, n, nonce)
	if err != nil || len(b) != 64 {
		t.Fatalf("Block(%q, %d, %q): %d bytes, %v", key, n, nonce, len(b), err)
	}
	return b
}

// mustXor is a text that may be asked for.
func mustXor(t *testing.T, key, nonce, s string) string {
	t.Helper()
	x, err := Xor(key, nonce, s)
	if err != nil || len(x) != len(s) {
		t.Fatalf("Xor(%q, %q, %.20q): %d bytes of %d, %v", key, nonce, s, len(x), len(s), err)
	}
	return x
}

// turned, wantBlock: RFC 8439 as it is told there, apart from the program: in great numbers, cut to 32 bits, each quarter round written out.
func turned(x *big.Int, by uint) *big.Int {
	high := new(big.Int).Lsh(x, by)
	low := new(big.Int).Rsh(x, 32-by)
	return cut(high.Or(high, low))
}

func cut(x *big.Int) *big.Int {
	return x.And(x, big.NewInt(math.MaxUint32))
}

func wantQuarter(s []*big.Int, a, b, c, d int) {
	for _, step := range []struct {
		to, from, turn int
		by             uint
	}{{a, b, d, 16}, {c, d, b, 12}, {a, b, d, 8}, {c, d, b, 7}} {
		s[step.to] = cut(new(big.Int).Add(s[step.to], s[step.from]))
		s[step.turn] = turned(new(big.Int).Xor(s[step.turn], s[step.to]), step.by)
	}
}

func wantBlock(key string, n int, nonce string) string {
	count := string([]byte{byte(n), byte(n >> 8), byte(n >> 16), byte(n >> 24)})
	text := "expand 32-byte k" + key + count + nonce
	var first, s []*big.Int
	for i := 0; i < 64; i += 4 {
		word := new(big.Int).SetBytes([]byte{text[i+3], text[i+2], text[i+1], text[i]})
		first = append(first, word)
		s = append(s, new(big.Int).Set(word))
	}
	for range 10 {
		for _, q := range [][4]int{
			{0, 4, 8, 12}, {1, 5, 9, 13}, {2, 6, 10, 14}, {3, 7, 11, 15},
			{0, 5, 10, 15}, {1, 6, 11, 12}, {2, 7, 8, 13}, {3, 4, 9, 14},
		} {
			wantQuarter(s, q[0], q[1], q[2], q[3])
		}
	}
	var out []byte
	for i := range s {
		var word [4]byte
		cut(s[i].Add(s[i], first[i])).FillBytes(word[:])
		out = append(out, word[3], word[2], word[1], word[0])
	}
	return string(out)
}

// TestKnownBlocks (2.1): RFC 8439, 2.3.2, and A.1, 1 and 2.
func TestKnownBlocks(t *testing.T) {
	noughts := strings.Repeat("\x00", 32)
	cases := []struct {
		key   string
		n     int
		nonce string
		want  string
	}{
		{countedKey, 1, blockNonce, "10f1e7e4d13b5915500fdd1fa32071c4c7d1f4c733c068030422aa9ac3d46c4ed2826446079faa0914c2d705d98b02a2b5129cd1de164eb9cbd083e8a2503c4e"},
		{noughts, 0, noughts[:12], "76b8e0ada0f13d90405d6ae55386bd28bdd219b8a08ded1aa836efcc8b770dc7da41597c5157488d7724e03fb8d84a376a43b8f41518a11cc387b669b2ee6586"},
		{noughts, 1, noughts[:12], "9f07e7be5551387a98ba977c732d080dcb0f29a048e3656912c6533e32ee7aed29b721769ce64e43d57133b074d839d531ed1f28510afb45ace10a1f4b794d6f"},
	}
	for _, c := range cases {
		if got := hex.EncodeToString([]byte(mustBlock(t, c.key, c.n, c.nonce))); got != c.want {
			t.Errorf("Block(%q, %d, %q): %s, want %s", c.key, c.n, c.nonce, got, c.want)
		}
	}
}

// TestKnownText (2.1): RFC 8439, 2.4.2.
func TestKnownText(t *testing.T) {
	if got := hex.EncodeToString([]byte(mustXor(t, countedKey, textNonce, sunscreen))); got != sunscreened {
		t.Errorf("Xor: %s, want %s", got, sunscreened)
	}
}

// TestBlocks (2.1): each number of four bytes, noughts and bytes above 127 in keys and nonces.
func TestBlocks(t *testing.T) {
	keys := []string{countedKey, varied(32), strings.Repeat("\x00", 32), strings.Repeat("\xff", 32), strings.Repeat("k", 32), strings.Repeat("é", 16)}
	nonces := []string{blockNonce, varied(12), strings.Repeat("\x00", 12), strings.Repeat("\xff", 12), strings.Repeat("é", 6)}
	for _, key := range keys {
		for _, nonce := range nonces {
			for _, n := range []int{0, 1, 2, 127, 128, 255, 256, 0x01020304, 1<<31 - 1, 1 << 31, highestNum - 1, highestNum} {
				got, want := mustBlock(t, key, n, nonce), wantBlock(key, n, nonce)
				if got != want {
					t.Errorf("Block(%q, %d, %q): %x, want %x", key, n, nonce, got, want)
				}
			}
		}
	}
}

// TestEachBitCounts (2.1): a block hangs on each bit of the key, the number and the nonce.
func TestEachBitCounts(t *testing.T) {
	seen := map[string]bool{mustBlock(t, countedKey, 1, blockNonce): true}
	flip := func(s string, bit int) string {
		b := []byte(s)
		b[bit/8] ^= 1 << (bit % 8)
		return string(b)
	}
	look := func(what string, bit int, b string) {
		if seen[b] {
			t.Errorf("bit %d of the %s: the block was there already", bit, what)
		}
		seen[b] = true
	}
	for i := range 256 {
		look("key", i, mustBlock(t, flip(countedKey, i), 1, blockNonce))
	}
	for i := range 96 {
		look("nonce", i, mustBlock(t, countedKey, 1, flip(blockNonce, i)))
	}
	for i := range 32 {
		look("number", i, mustBlock(t, countedKey, 1^1<<i, blockNonce))
	}
}

// TestXor (2.1): byte i by byte i mod 64 of block 1 + i/64, at sizes around whole blocks, and more than 256 blocks.
func TestXor(t *testing.T) {
	for _, key := range []string{countedKey, varied(32)} {
		var blocks strings.Builder
		for n := 1; n <= 300; n++ {
			blocks.WriteString(wantBlock(key, n, textNonce))
		}
		for _, n := range []int{0, 1, 2, 62, 63, 64, 65, 127, 128, 129, 192, 193, 1000, 256 * 64, 300 * 64} {
			for _, s := range []string{strings.Repeat("a", n), strings.Repeat("\x00", n), strings.Repeat("\xff", n), varied(n)} {
				want := []byte(s)
				for i := range want {
					want[i] ^= blocks.String()[i]
				}
				if got := mustXor(t, key, textNonce, s); got != string(want) {
					t.Errorf("Xor of %d bytes %.8q..: not each byte by its own block's", n, s)
				}
			}
		}
	}
}

// TestXorAgain (2.1): once and once again is nothing.
func TestXorAgain(t *testing.T) {
	for _, n := range []int{0, 1, 63, 64, 65, 128, 5000} {
		s := varied(n)
		once := mustXor(t, varied(32), varied(12), s)
		if n > 8 && once == s {
			t.Errorf("%d bytes are what they were", n)
		}
		if got := mustXor(t, varied(32), varied(12), once); got != s {
			t.Errorf("%d bytes, once and once again: %x, want %x", n, got, s)
		}
	}
}

// wantArg: nothing but ErrArg, and no bytes beside it (P2, P3).
func wantArg(t *testing.T, what, got string, err error) {
	t.Helper()
	if got != "" || api.Tell(err) != api.ErrArg {
		t.Errorf("%s: %x, %v, want ErrArg alone", what, got, err)
	}
}

// TestWrongSizes (2.1): keys and nonces of other sizes, whatever the number and the text are.
func TestWrongSizes(t *testing.T) {
	for _, k := range []int{0, 1, 12, 16, 31, 32, 33, 64, 70_000} {
		for _, m := range []int{0, 1, 8, 11, 12, 13, 24, 32, 70_000} {
			if k == 32 && m == 12 {
				continue
			}
			key, nonce := varied(k), varied(m)
			for _, n := range []int{-1, 0, 1, highestNum, highestNum + 1} {
				b, err := Block(key, n, nonce)
				wantArg(t, "Block", b, err)
			}
			for _, size := range []int{0, 1, 64, 65} {
				x, err := Xor(key, nonce, varied(size))
				wantArg(t, "Xor", x, err)
			}
		}
	}
}

// TestWrongNumbers (2.1): numbers that four bytes do not hold.
func TestWrongNumbers(t *testing.T) {
	for _, n := range []int{-1, -2, -highestNum, -highestNum - 1, highestNum + 1, highestNum + 2, math.MaxInt, math.MinInt, math.MinInt + 1} {
		b, err := Block(countedKey, n, blockNonce)
		wantArg(t, "Block", b, err)
	}
	for _, n := range []int{0, 1, highestNum} {
		mustBlock(t, countedKey, n, blockNonce)
	}
}

// TestSameAgain (P4): an answer hangs on its arguments alone, whoever else asks meanwhile.
func TestSameAgain(t *testing.T) {
	ask := func() string {
		b, _ := Block(countedKey, 7, blockNonce)
		x, _ := Xor(countedKey, textNonce, sunscreen)
		return b + x
	}
	want := ask()
	got := make([]string, 8)
	var w sync.WaitGroup
	for i := range got {
		w.Go(func() {
			Xor(varied(32), varied(12), varied(100*i))
			Block(varied(31), i, varied(12))
			got[i] = ask()
		})
	}
	w.Wait()
	for i, g := range got {
		if g != want {
			t.Errorf("asked again (%d): %x, want %x", i, g, want)
		}
	}
}
