package vault

import (
	"crypto/sha256"
	"encoding/binary"
	"encoding/hex"
	"errors"
	"math"
	"slices"
	"strings"
	"sync"
	"testing"

	"oubliette/api"
)

const secret = "0123456789abcdef"

// noNames: what no subject may be called.
var noNames = []string{"", "abcdefghijk", "1", "1a", "Ann", "aNn", "anN", " ", " ann", "ann ", "a n", "a_b", "a-b", "a.b", "a\x00", "\x00", "\x80", "\xe1", "\xff", "é", "aé", "a\xe9", "ａ", "ann\n", "a`", "a{", "a/", "a:"}

// keyApart is a key, written apart from the program: from the library's sum and the library's order of bytes.
func keyApart(secret, subject string, which int) string {
	text := []byte{'v'}
	for _, part := range []string{secret, subject, string(binary.BigEndian.AppendUint64(nil, uint64(which)))} {
		text = binary.BigEndian.AppendUint64(text, uint64(len(part)))
		text = append(text, part...)
	}
	mark := sha256.Sum256(text)
	key := sha256.Sum256(mark[:16])
	return string(key[:])
}

func mustNew(t *testing.T, secret string) *Vault {
	t.Helper()
	v, err := New(secret)
	if v == nil || err != nil {
		t.Fatalf("New(%q): %v, %v", secret, v, err)
	}
	return v
}

// wantErrno: that error, without a place (P3).
func wantErrno(t *testing.T, what string, err error, want api.Errno) {
	t.Helper()
	if api.Tell(err) != want {
		t.Errorf("%s: %v, want %v", what, err, want)
	}
	var at *api.At
	if errors.As(err, &at) {
		t.Errorf("%s: the error has a place, %d", what, at.Place)
	}
}

func wantMake(t *testing.T, v *Vault, subject string, gen int, key string) {
	t.Helper()
	g, k, err := v.Make(subject)
	if g != gen || k != key || err != nil {
		t.Errorf("Make(%q): %d, %x, %v, want %d, %x", subject, g, k, err, gen, key)
	}
}

// wantNoMake: that error alone (P2).
func wantNoMake(t *testing.T, v *Vault, subject string, want api.Errno) {
	t.Helper()
	g, k, err := v.Make(subject)
	if g != 0 || k != "" {
		t.Errorf("Make(%q): %d, %x beside %v", subject, g, k, err)
	}
	wantErrno(t, "Make("+subject+")", err, want)
}

func wantKey(t *testing.T, v *Vault, subject string, gen int, key string) {
	t.Helper()
	if k, err := v.Key(subject, gen); k != key || err != nil {
		t.Errorf("Key(%q, %d): %x, %v, want %x", subject, gen, k, err, key)
	}
}

// wantNoKey: that error alone (P2).
func wantNoKey(t *testing.T, v *Vault, subject string, gen int, want api.Errno) {
	t.Helper()
	k, err := v.Key(subject, gen)
	if k != "" {
		t.Errorf("Key(%q, %d): %x beside %v", subject, gen, k, err)
	}
	wantErrno(t, "Key("+subject+")", err, want)
}

func wantForget(t *testing.T, v *Vault, subject string, want api.Errno) {
	t.Helper()
	wantErrno(t, "Forget("+subject+")", v.Forget(subject), want)
}

func wantSubjects(t *testing.T, v *Vault, want ...string) {
	t.Helper()
	if got := v.Subjects(); !slices.Equal(got, want) {
		t.Errorf("Subjects: %q, want %q", got, want)
	}
}

// TestName (4.1): ordinary ones, and the edges of how many bytes there are.
func TestName(t *testing.T) {
	for _, s := range []string{"a", "z", "ann", "a0", "z9", "a0b1c2", "az09", "abcdefghij", "z123456789", strings.Repeat("q", api.MaxName)} {
		if !Name(s) {
			t.Errorf("Name(%q): false", s)
		}
	}
	for _, s := range noNames {
		if Name(s) {
			t.Errorf("Name(%q): true", s)
		}
	}
	for n := range 3 * api.MaxName {
		if got, want := Name(strings.Repeat("a", n)), n >= 1 && n <= api.MaxName; got != want {
			t.Errorf("Name of %d letters: %v", n, got)
		}
	}
	if Name(strings.Repeat("a", 70_000)) {
		t.Error("Name of 70000 letters: true")
	}
}

// TestNameOfEachByte (4.1, P5): each byte, first, in the middle and last.
func TestNameOfEachByte(t *testing.T) {
	for b := range 256 {
		c := string([]byte{byte(b)})
		letter := strings.Contains("abcdefghijklmnopqrstuvwxyz", c)
		digit := strings.Contains("0123456789", c)
		for _, s := range []string{c, c + "a", c + "abcdefghi"} {
			if Name(s) != letter {
				t.Errorf("Name(%q): %v", s, !letter)
			}
		}
		for _, s := range []string{"a" + c, "a" + c + "b", "abcdefghi" + c} {
			if Name(s) != (letter || digit) {
				t.Errorf("Name(%q): %v", s, !(letter || digit))
			}
		}
	}
}

// TestNew (4.1): a secret of 16 bytes, whichever they are, and none of another size.
func TestNew(t *testing.T) {
	for n := range 70 {
		v, err := New(strings.Repeat("s", n))
		if n == 16 {
			if v == nil || err != nil {
				t.Errorf("New of 16 bytes: %v, %v", v, err)
			}
			continue
		}
		if v != nil {
			t.Errorf("New of %d bytes: a vault beside %v", n, err)
		}
		wantErrno(t, "New of another size", err, api.ErrArg)
	}
	for _, s := range []string{secret, strings.Repeat("\x00", 16), strings.Repeat("\xff", 16), strings.Repeat("é", 8)} {
		v := mustNew(t, s)
		wantSubjects(t, v)
		wantNoKey(t, v, "ann", 1, api.ErrMissing)
		wantForget(t, v, "ann", api.ErrNone)
	}
	_, err := New(strings.Repeat("é", 16))
	wantErrno(t, "New of 16 letters that are 32 bytes", err, api.ErrArg)
}

// TestKnownKeys (4.1): worked out apart from the program.
func TestKnownKeys(t *testing.T) {
	cases := []struct {
		secret, subject string
		which           int
		want            string
	}{
		{secret, "ann", 1, "ae03e7340fed4328a3db00f313d1b4c224406241efd53ef370d051e892fa9aca"},
		{secret, "ann", 2, "747ceae843e4564b76ae6c4935fd225b0a268851b1a5be3a97215a463ae00268"},
		{secret, "ann", 3, "9e13e3027e2c46564c56513dbadd1dcf6d1c4f0c2a6375168d100cfa6eebad97"},
		{secret, "bob", 1, "f4641b39d607d9407a3e84a0d2e78c9b629c0b021e0f9db969951cec0e76997e"},
		{secret, "a", 1, "fa162ab51161ff810a6817c4cb30d724386c89602021f4f497513d1f4dec8baf"},
		{secret, "z123456789", 1, "2e5cc2eba46299aa890a57390783b019dd6a9eed2a10a28b7ad69376f1deb2bb"},
		{strings.Repeat("\x00", 16), "ann", 1, "b8995e5f798e9acf7eeffd26656008da8d3c71f447c9f31ea5c32e94bf0f5f32"},
		{strings.Repeat("\xff", 16), "ann", 1, "3e1300e6cb091616001e95323e23ce64e7f6848a8af8372ca4b879b61ad8ea6f"},
		{strings.Repeat("é", 8), "a0", 1, "55bf2528c354f24dc868b446aee12aaad3664b1444436299124463844156b37b"},
	}
	for _, c := range cases {
		v := mustNew(t, c.secret)
		for which := 1; which < c.which; which++ {
			v.Make(c.subject)
			wantForget(t, v, c.subject, api.OK)
		}
		g, k, err := v.Make(c.subject)
		if got := hex.EncodeToString([]byte(k)); g != c.which || got != c.want || err != nil {
			t.Errorf("Make(%q), of %q: %d, %s, %v, want %d, %s", c.subject, c.secret, g, got, err, c.which, c.want)
		}
		if k != keyApart(c.secret, c.subject, c.which) {
			t.Errorf("Make(%q), of %q: another key than the library's sum tells", c.subject, c.secret)
		}
	}
}

// TestMakeAgain (4.1): who has a key keeps it, whatever others have.
func TestMakeAgain(t *testing.T) {
	v := mustNew(t, secret)
	for range 3 {
		wantMake(t, v, "ann", 1, keyApart(secret, "ann", 1))
		wantMake(t, v, "bob", 1, keyApart(secret, "bob", 1))
	}
	wantForget(t, v, "bob", api.OK)
	wantMake(t, v, "bob", 2, keyApart(secret, "bob", 2))
	wantMake(t, v, "ann", 1, keyApart(secret, "ann", 1))
	wantKey(t, v, "ann", 1, keyApart(secret, "ann", 1))
}

// TestMakeBehindForget (4.1): one more than it ever had, and none that was forgotten comes back.
func TestMakeBehindForget(t *testing.T) {
	v := mustNew(t, secret)
	for gen := 1; gen <= 300; gen++ {
		key := keyApart(secret, "ann", gen)
		wantMake(t, v, "ann", gen, key)
		wantMake(t, v, "ann", gen, key)
		wantKey(t, v, "ann", gen, key)
		for old := max(1, gen-3); old < gen; old++ {
			wantNoKey(t, v, "ann", old, api.ErrNone)
		}
		wantNoKey(t, v, "ann", gen+1, api.ErrMissing)
		wantForget(t, v, "ann", api.OK)
		wantNoKey(t, v, "ann", gen, api.ErrNone)
		wantNoKey(t, v, "ann", gen+1, api.ErrMissing)
	}
	for old := 1; old <= 300; old++ {
		wantNoKey(t, v, "ann", old, api.ErrNone)
	}
}

// TestNoNames (4.1, P2): who may not be called so has no key, and nothing is changed.
func TestNoNames(t *testing.T) {
	v := mustNew(t, secret)
	wantMake(t, v, "ann", 1, keyApart(secret, "ann", 1))
	for _, s := range noNames {
		wantNoMake(t, v, s, api.ErrName)
		wantNoMake(t, v, s, api.ErrName)
		wantNoKey(t, v, s, 0, api.ErrMissing)
		wantNoKey(t, v, s, 1, api.ErrMissing)
		wantForget(t, v, s, api.ErrNone)
	}
	wantSubjects(t, v, "ann")
	wantMake(t, v, "ann", 1, keyApart(secret, "ann", 1))
}

// TestKeyNumbers (4.1): numbers beyond those that it ever had, on both sides, are told ahead of those that it has no more.
func TestKeyNumbers(t *testing.T) {
	v := mustNew(t, secret)
	outside := []int{math.MinInt, -2, -1, 0, 4, 5, 1 << 32, 1<<32 + 3, math.MaxInt}
	for range 2 {
		v.Make("ann")
		v.Forget("ann")
	}
	v.Make("ann")
	for range 2 {
		for _, gen := range outside {
			wantNoKey(t, v, "ann", gen, api.ErrMissing)
		}
		wantNoKey(t, v, "ann", 1, api.ErrNone)
		wantNoKey(t, v, "ann", 2, api.ErrNone)
		wantKey(t, v, "ann", 3, keyApart(secret, "ann", 3))
	}
	wantForget(t, v, "ann", api.OK)
	for _, gen := range outside {
		wantNoKey(t, v, "ann", gen, api.ErrMissing)
	}
	for gen := 1; gen <= 3; gen++ {
		wantNoKey(t, v, "ann", gen, api.ErrNone)
	}
	for _, gen := range []int{math.MinInt, -1, 0, 1, 2, 3, math.MaxInt} {
		wantNoKey(t, v, "bob", gen, api.ErrMissing)
	}
}

// TestAskedForIsNotMade (4.1, P2): Key and Forget give nobody a key.
func TestAskedForIsNotMade(t *testing.T) {
	v := mustNew(t, secret)
	for range 2 {
		wantForget(t, v, "ann", api.ErrNone)
		wantNoKey(t, v, "ann", 1, api.ErrMissing)
		wantSubjects(t, v)
	}
	wantMake(t, v, "ann", 1, keyApart(secret, "ann", 1))
}

// TestForget (4.1): once; who has none any more, or never had any, is told so; others keep theirs.
func TestForget(t *testing.T) {
	v := mustNew(t, secret)
	v.Make("ann")
	v.Make("bob")
	wantForget(t, v, "cid", api.ErrNone)
	wantForget(t, v, "ann", api.OK)
	for range 3 {
		wantForget(t, v, "ann", api.ErrNone)
	}
	wantNoKey(t, v, "ann", 1, api.ErrNone)
	wantKey(t, v, "bob", 1, keyApart(secret, "bob", 1))
	// Those that were refused count for nothing.
	wantMake(t, v, "ann", 2, keyApart(secret, "ann", 2))
	wantMake(t, v, "cid", 1, keyApart(secret, "cid", 1))
}

// TestSubjects (4.1): those that have a key now, byte by byte, however they came.
func TestSubjects(t *testing.T) {
	v := mustNew(t, secret)
	wantSubjects(t, v)
	for _, s := range []string{"b", "zoe", "ann", "a", "anna", "a1", "a10", "a9", "z", "an", "aa", "abcdefghij"} {
		v.Make(s)
	}
	all := []string{"a", "a1", "a10", "a9", "aa", "abcdefghij", "an", "ann", "anna", "b", "z", "zoe"}
	wantSubjects(t, v, all...)
	v.Make("ann")
	wantSubjects(t, v, all...)
	v.Forget("a")
	v.Forget("ann")
	v.Forget("zoe")
	wantSubjects(t, v, "a1", "a10", "a9", "aa", "abcdefghij", "an", "anna", "b", "z")
	v.Make("ann")
	wantSubjects(t, v, "a1", "a10", "a9", "aa", "abcdefghij", "an", "ann", "anna", "b", "z")
	for _, s := range all {
		v.Forget(s)
	}
	wantSubjects(t, v)
}

// TestSubjectsAreTheCallers (P4): what is done to an answer is seen in no other one.
func TestSubjectsAreTheCallers(t *testing.T) {
	v := mustNew(t, secret)
	v.Make("bob")
	v.Make("ann")
	first, second := v.Subjects(), v.Subjects()
	first[0], first[1] = "x", "y"
	_ = append(first[:1], "z")
	if !slices.Equal(second, []string{"ann", "bob"}) {
		t.Errorf("another answer: %q", second)
	}
	wantSubjects(t, v, "ann", "bob")
	wantForget(t, v, "x", api.ErrNone)
	v.Forget("bob")
	v.Make("cid")
	if !slices.Equal(second, []string{"ann", "bob"}) {
		t.Errorf("an answer from before: %q", second)
	}
}

// TestTwoOfOneSecret (4.1): they have the same keys, and each its own subjects.
func TestTwoOfOneSecret(t *testing.T) {
	one, two, other := mustNew(t, secret), mustNew(t, secret), mustNew(t, "0123456789abcdeF")
	two.Make("cid")
	two.Make("bob")
	for gen := 1; gen <= 5; gen++ {
		_, a, _ := one.Make("ann")
		wantMake(t, two, "ann", gen, a)
		if _, c, _ := other.Make("ann"); c == a {
			t.Errorf("another secret's key %d is the same, %x", gen, c)
		}
		wantForget(t, one, "ann", api.OK)
		wantKey(t, two, "ann", gen, a)
		wantForget(t, two, "ann", api.OK)
		wantForget(t, other, "ann", api.OK)
	}
	wantSubjects(t, one)
	wantSubjects(t, two, "bob", "cid")
	wantNoKey(t, one, "bob", 1, api.ErrMissing)
}

// TestKeysAreApart (4.1): no two subjects, numbers or secrets have one key, even if their bytes follow one another alike.
func TestKeysAreApart(t *testing.T) {
	whose := map[string]string{}
	for _, s := range []string{secret, "0123456789abcdea", "a0123456789abcde"} {
		v := mustNew(t, s)
		for _, subject := range []string{"a", "aa", "aaa", "a1", "a11", "a2", "ann", "nna"} {
			for range 12 {
				_, k, err := v.Make(subject)
				if len(k) != api.KeySize || err != nil {
					t.Errorf("Make(%q): %d bytes, %v", subject, len(k), err)
				}
				if before, ok := whose[k]; ok {
					t.Errorf("%s of %s has the key of %s", subject, s, before)
				}
				whose[k] = subject + " of " + s
				v.Forget(subject)
			}
		}
	}
}

// TestOneVaultForTwo (P1): two that have one vault see what is done to it.
func TestOneVaultForTwo(t *testing.T) {
	for _, v := range []*Vault{mustNew(t, secret), {}} {
		also := v
		_, k, _ := v.Make("ann")
		wantKey(t, also, "ann", 1, k)
		wantSubjects(t, also, "ann")
		wantForget(t, also, "ann", api.OK)
		wantNoKey(t, v, "ann", 1, api.ErrNone)
		wantSubjects(t, v)
	}
}

// TestZeroValue (P1): a vault that nobody made is one of the empty secret.
func TestZeroValue(t *testing.T) {
	var asked Vault
	wantSubjects(t, &asked)
	wantNoKey(t, &asked, "ann", 0, api.ErrMissing)
	wantNoKey(t, &asked, "ann", 1, api.ErrMissing)
	wantForget(t, &asked, "ann", api.ErrNone)
	wantNoMake(t, &asked, "Ann", api.ErrName)

	var v Vault
	first, second := keyApart("", "ann", 1), keyApart("", "ann", 2)
	if got := hex.EncodeToString([]byte(first)); got != "b9f11c7e7a5ed639eac35efdd60c7a2ae7a5d578a7eaadf409b3240f55611440" {
		t.Fatalf("the test's own key: %s", got)
	}
	wantMake(t, &v, "ann", 1, first)
	wantMake(t, &v, "ann", 1, first)
	wantMake(t, &v, "bob", 1, keyApart("", "bob", 1))
	wantKey(t, &v, "ann", 1, first)
	wantSubjects(t, &v, "ann", "bob")
	wantForget(t, &v, "ann", api.OK)
	wantForget(t, &v, "ann", api.ErrNone)
	wantNoKey(t, &v, "ann", 1, api.ErrNone)
	wantMake(t, &v, "ann", 2, second)
	wantSubjects(t, &v, "ann", "bob")
}

// TestNilVault (P1): what New answers beside an error is asked without a panic.
func TestNilVault(t *testing.T) {
	v, _ := New("")
	wantSubjects(t, v)
	wantNoMake(t, v, "Ann", api.ErrName)
	wantNoMake(t, v, "ann", api.ErrMissing)
	wantNoKey(t, v, "ann", 1, api.ErrMissing)
	wantForget(t, v, "ann", api.ErrNone)
}

// model is what 4.1 tells, kept in another way: each subject's keys, as they came, empty where forgotten.
type model map[string][]string

func (m model) has(subject string) bool {
	l := m[subject]
	return len(l) > 0 && l[len(l)-1] != ""
}

func (m model) subjects() []string {
	var out []string
	for s := range m {
		if m.has(s) {
			out = append(out, s)
		}
	}
	slices.Sort(out)
	return out
}

// checkAll holds all that a vault tells against the model.
func checkAll(t *testing.T, v *Vault, m model, subjects []string) {
	t.Helper()
	wantSubjects(t, v, m.subjects()...)
	for _, s := range subjects {
		for gen := -1; gen <= len(m[s])+2; gen++ {
			switch {
			case gen < 1 || gen > len(m[s]):
				wantNoKey(t, v, s, gen, api.ErrMissing)
			case m[s][gen-1] == "":
				wantNoKey(t, v, s, gen, api.ErrNone)
			default:
				wantKey(t, v, s, gen, m[s][gen-1])
			}
		}
	}
}

// TestLongRuns (4.1, P2): many calls, one behind the other, each held against the model, those with an error too.
func TestLongRuns(t *testing.T) {
	subjects := []string{"ann", "bob", "a", "abcdefghij", "Ann", "", "abcdefghijk"}
	drawn := uint32(7)
	draw := func(most int) int {
		drawn = drawn*1664525 + 1013904223
		return int(drawn>>16) % most
	}
	for range 20 {
		v, m := mustNew(t, secret), model{}
		for range 60 {
			s := subjects[draw(len(subjects))]
			switch {
			case draw(2) == 0 && m.has(s):
				wantForget(t, v, s, api.OK)
				m[s][len(m[s])-1] = ""
			case draw(3) == 0 && !m.has(s):
				wantForget(t, v, s, api.ErrNone)
			case slices.Contains(subjects[4:], s):
				wantNoMake(t, v, s, api.ErrName)
			default:
				if !m.has(s) {
					m[s] = append(m[s], keyApart(secret, s, len(m[s])+1))
				}
				wantMake(t, v, s, len(m[s]), m[s][len(m[s])-1])
			}
			checkAll(t, v, m, subjects)
		}
	}
}

// TestSameAgain (P4): an answer hangs on the calls on its own vault alone, whoever else asks another one meanwhile.
func TestSameAgain(t *testing.T) {
	run := func() string {
		v, _ := New(secret)
		var told strings.Builder
		for i := range 40 {
			s := string([]byte{byte('a' + i*7%10)})
			_, k, _ := v.Make(s)
			told.WriteString(k)
			if i%3 == 0 {
				v.Forget(s)
			}
			told.WriteString(strings.Join(v.Subjects(), " "))
		}
		return told.String()
	}
	want := run()
	got := make([]string, 8)
	var w sync.WaitGroup
	for i := range got {
		w.Go(func() { got[i] = run() })
	}
	w.Wait()
	for i, g := range got {
		if g != want {
			t.Errorf("run again (%d), it tells something else", i)
		}
	}
}
