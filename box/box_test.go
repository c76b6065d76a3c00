package box

import (
	"crypto/sha256"
	"encoding/binary"
	"encoding/hex"
	"errors"
	"strings"
	"sync"
	"testing"

	"oubliette/api"
	"oubliette/stream"
)

const (
	countedKey = "\x00\x01\x02\x03\x04\x05\x06\x07\x08\x09\x0a\x0b\x0c\x0d\x0e\x0f\x10\x11\x12\x13\x14\x15\x16\x17\x18\x19\x1a\x1b\x1c\x1d\x1e\x1f"
	textNonce  = "\x00\x00\x00\x00\x00\x00\x00\x4a\x00\x00\x00\x00"
	sunscreen  = "Ladies and Gentlemen of the class of '99: If I could offer you only one tip for the future, sunscreen would be it."
)

// varied has n bytes, each value of a byte among them if n allows it.
func varied(n int) string {
	out := make([]byte, n)
	for i := range out {
		out[i] = byte(251 - i*7)
	}
	return string(out)
}

// flipped is a text with one bit changed.
func flipped(s string, bit int) string {
	b := []byte(s)
	b[bit/8] ^= 1 << (bit % 8)
	return string(b)
}

// tagged puts the TAG ahead, written apart from the program: from the library's sum and the library's order of bytes.
func tagged(key, nonce, with, hidden string) string {
	text := []byte{'g'}
	for _, part := range []string{key, nonce, with, hidden} {
		text = binary.BigEndian.AppendUint64(text, uint64(len(part)))
		text = append(text, part...)
	}
	h := sha256.Sum256(text)
	return string(h[:16]) + hidden
}

// hide is what stands behind the TAG.
func hide(t *testing.T, key, nonce, text string) string {
	t.Helper()
	x, err := stream.Xor(key, nonce, text)
	if err != nil {
		t.Fatalf("Xor: %v", err)
	}
	return x
}

func mustSeal(t *testing.T, key, nonce, with, text string) string {
	t.Helper()
	s, err := Seal(key, nonce, with, text)
	if err != nil {
		t.Fatalf("Seal(%q, %q, %.20q, %d bytes): %v", key, nonce, with, len(text), err)
	}
	return s
}

// wantError: that error alone, without a place and without bytes beside it (P2, P3).
func wantError(t *testing.T, what, got string, err error, want api.Errno) {
	t.Helper()
	if got != "" || api.Tell(err) != want {
		t.Errorf("%s: %x, %v, want %v alone", what, got, err, want)
	}
	var at *api.At
	if errors.As(err, &at) {
		t.Errorf("%s: the error has a place, %d", what, at.Place)
	}
}

// TestKnown (3.1): worked out apart from the program, RFC 8439, 2.4.2 among them behind the TAG.
func TestKnown(t *testing.T) {
	cases := []struct{ key, nonce, with, text, want string }{
		{countedKey, textNonce, "with", sunscreen, "ab6db851bca3b0dadff4c69afe4c3514" +
			"6e2e359a2568f98041ba0728dd0d6981e97e7aec1d4360c20a27afccfd9fae0b" +
			"f91b65c5524733ab8f593dabcd62b3571639d624e65152ab8f530c359f0861d8" +
			"07ca0dbf500d6a6156a38e088a22b65e52bc514d16ccf806818ce91ab7793736" +
			"5af90bbf74a35be6b40b8eedf2785e42874d"},
		{countedKey, textNonce, "", "", "03a59b91c1cd12f28648c57401caa8c7"},
		{strings.Repeat("\x00", 32), strings.Repeat("\x00", 12), "", "a", "2d9477aa9c22770d3227a39945e190c2fe"},
		{strings.Repeat("\xff", 32), strings.Repeat("\x80", 12), "\xe9\xff", "\x80\xff\x00", "bcaeeebc033bff4e560d3c65e0b183d2bff963"},
	}
	for _, c := range cases {
		sealed := mustSeal(t, c.key, c.nonce, c.with, c.text)
		if got := hex.EncodeToString([]byte(sealed)); got != c.want {
			t.Errorf("Seal(%q, %q, %q, %q): %s, want %s", c.key, c.nonce, c.with, c.text, got, c.want)
		}
		if got, err := Open(c.key, c.nonce, c.with, sealed); got != c.text || err != nil {
			t.Errorf("Open of it: %q, %v, want %q", got, err, c.text)
		}
	}
}

// TestSealAndOpen (3.1): the TAG ahead, Xor behind it, and what is sealed is opened, at each size that may be.
func TestSealAndOpen(t *testing.T) {
	keys := []string{countedKey, varied(32), strings.Repeat("é", 16)}
	nonces := []string{textNonce, varied(12), strings.Repeat("\xff", 12)}
	withs := []string{"", "w", "with", "\x00", "é\xff\x80", varied(1000)}
	for i, with := range withs {
		key, nonce := keys[i%len(keys)], nonces[i/2%len(nonces)]
		for n := 0; n <= api.MaxPlain; n++ {
			text := varied(n)
			sealed := mustSeal(t, key, nonce, with, text)
			if want := tagged(key, nonce, with, hide(t, key, nonce, text)); sealed != want {
				t.Errorf("Seal of %d bytes, with %.8q: %x, want %x", n, with, sealed, want)
			}
			if got, err := Open(key, nonce, with, sealed); got != text || err != nil {
				t.Errorf("Open of %d bytes sealed, with %.8q: %x, %v", n, with, got, err)
			}
		}
	}
}

// TestWithIsNotBounded (3.1): no sentence bounds what stays open.
func TestWithIsNotBounded(t *testing.T) {
	with := varied(70_001)
	sealed := mustSeal(t, countedKey, textNonce, with, "a")
	if got, err := Open(countedKey, textNonce, with, sealed); got != "a" || err != nil {
		t.Errorf("Open: %q, %v", got, err)
	}
}

// TestSealWrongSizes (3.1): a text that is too great is told ahead of a wrong key or nonce.
func TestSealWrongSizes(t *testing.T) {
	for _, k := range []int{0, 1, 16, 31, 32, 33, 64} {
		for _, m := range []int{0, 1, 11, 12, 13, 24} {
			for _, n := range []int{0, 1, api.MaxPlain, api.MaxPlain + 1, api.MaxText, 70_000} {
				got, err := Seal(varied(k), varied(m), "with", varied(n))
				switch {
				case n > api.MaxPlain:
					wantError(t, "Seal of too much", got, err, api.ErrLimit)
				case k != 32 || m != 12:
					wantError(t, "Seal by a wrong key or nonce", got, err, api.ErrArg)
				case err != nil || len(got) != 16+n:
					t.Errorf("Seal of %d bytes: %d bytes, %v", n, len(got), err)
				}
			}
		}
	}
}

// TestOpenWrongArgs (3.1): a wrong key or nonce is told ahead of what is spoilt, even if the TAG is theirs.
func TestOpenWrongArgs(t *testing.T) {
	for _, k := range []int{0, 1, 16, 31, 32, 33, 64} {
		for _, m := range []int{0, 1, 11, 12, 13, 24} {
			if k == 32 && m == 12 {
				continue
			}
			key, nonce := varied(k), varied(m)
			for _, n := range []int{0, 15, 16, 17, api.MaxPlain + 16, api.MaxPlain + 17} {
				got, err := Open(key, nonce, "with", varied(n))
				wantError(t, "Open of nothing that was sealed", got, err, api.ErrArg)
			}
			for _, n := range []int{0, 1, api.MaxPlain, api.MaxPlain + 1} {
				got, err := Open(key, nonce, "with", tagged(key, nonce, "with", varied(n)))
				wantError(t, "Open of what has its TAG", got, err, api.ErrArg)
			}
		}
	}
}

// TestOpenSizes (3.1): less than a TAG, or more than may be sealed behind it, is spoilt, even if the TAG is right.
func TestOpenSizes(t *testing.T) {
	for _, n := range []int{0, 1, 15, 16, 17, api.MaxPlain + 15, api.MaxPlain + 16, api.MaxPlain + 17, 70_000} {
		got, err := Open(countedKey, textNonce, "with", varied(n))
		wantError(t, "Open of bytes that nobody sealed", got, err, api.ErrSpoilt)
	}
	for _, n := range []int{0, 1, api.MaxPlain - 1, api.MaxPlain} {
		text := varied(n)
		s := tagged(countedKey, textNonce, "with", hide(t, countedKey, textNonce, text))
		if got, err := Open(countedKey, textNonce, "with", s); got != text || err != nil {
			t.Errorf("Open of %d bytes with their TAG: %x, %v", n, got, err)
		}
	}
	for _, n := range []int{api.MaxPlain + 1, api.MaxPlain + 2, 70_000} {
		s := tagged(countedKey, textNonce, "with", hide(t, countedKey, textNonce, varied(n)))
		got, err := Open(countedKey, textNonce, "with", s)
		wantError(t, "Open of too much with its TAG", got, err, api.ErrSpoilt)
	}
}

// TestEachBitIsNoticed (3.1): what is changed is noticed, each bit of it.
func TestEachBitIsNoticed(t *testing.T) {
	key, nonce, with := varied(32), textNonce, "with\xff"
	for _, n := range []int{0, 1, 64, 65, api.MaxPlain} {
		s := mustSeal(t, key, nonce, with, varied(n))
		for bit := range 8 * len(s) {
			got, err := Open(key, nonce, with, flipped(s, bit))
			wantError(t, "a bit of what is sealed", got, err, api.ErrSpoilt)
		}
		for bit := range 8 * len(key) {
			got, err := Open(flipped(key, bit), nonce, with, s)
			wantError(t, "a bit of the key", got, err, api.ErrSpoilt)
		}
		for bit := range 8 * len(nonce) {
			got, err := Open(key, flipped(nonce, bit), with, s)
			wantError(t, "a bit of the nonce", got, err, api.ErrSpoilt)
		}
		for bit := range 8 * len(with) {
			got, err := Open(key, nonce, flipped(with, bit), s)
			wantError(t, "a bit of what stays open", got, err, api.ErrSpoilt)
		}
	}
}

// TestCutAndMovedIsNoticed (3.1): what is cut or longer, and bytes that stand on the other side of an edge.
func TestCutAndMovedIsNoticed(t *testing.T) {
	s := mustSeal(t, countedKey, textNonce, "with", varied(70))
	for n := range len(s) {
		got, err := Open(countedKey, textNonce, "with", s[:n])
		wantError(t, "a beginning", got, err, api.ErrSpoilt)
		got, err = Open(countedKey, textNonce, "with", s[len(s)-n:])
		wantError(t, "an end", got, err, api.ErrSpoilt)
	}
	for _, other := range []string{s + "\x00", "\x00" + s, s + s, s[16:] + s[:16]} {
		got, err := Open(countedKey, textNonce, "with", other)
		wantError(t, "other bytes", got, err, api.ErrSpoilt)
	}
	for _, with := range []string{"", "wit", "with\x00", "With", "with" + s[16:17]} {
		got, err := Open(countedKey, textNonce, with, s)
		wantError(t, "something else that stays open", got, err, api.ErrSpoilt)
	}
	got, err := Open(countedKey, textNonce, "with"+s[16:17], s[:16]+s[17:])
	wantError(t, "a byte moved to what stays open", got, err, api.ErrSpoilt)
	got, err = Open(countedKey, textNonce, "wit", s[:16]+"h"+s[16:])
	wantError(t, "a byte moved from what stays open", got, err, api.ErrSpoilt)
}

// TestSameAgain (P4): an answer hangs on its arguments alone, whoever else asks meanwhile.
func TestSameAgain(t *testing.T) {
	sealed := mustSeal(t, countedKey, textNonce, "with", sunscreen)
	ask := func() string {
		s, _ := Seal(countedKey, textNonce, "with", sunscreen)
		u, _ := Open(countedKey, textNonce, "with", sealed)
		return s + u
	}
	got := make([]string, 8)
	var w sync.WaitGroup
	for i := range got {
		w.Go(func() {
			Seal(varied(32), varied(12), varied(i), varied(60*i))
			Open(countedKey, textNonce, "with", flipped(sealed, i))
			got[i] = ask()
		})
	}
	w.Wait()
	for i, g := range got {
		if g != sealed+sunscreen {
			t.Errorf("asked again (%d): %x, want %x", i, g, sealed+sunscreen)
		}
	}
}
