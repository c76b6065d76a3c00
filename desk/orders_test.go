package desk

import (
	"crypto/sha256"
	"encoding/binary"
	"encoding/hex"
	"strconv"
	"strings"
	"testing"

	"oubliette/api"
	"oubliette/feed"
	"oubliette/source"
)

const (
	helpApart = "block cells del feed gone help load lost new put read rows save subjects sum wire"
	longest   = "abcdefghijklmnopqrst" // a value of MaxValue bytes
)

// secretApart is the secret of a word, `d(T)` (1.1), told apart from the program.
func secretApart(word string) string {
	size := binary.BigEndian.AppendUint64(nil, uint64(len(word)))
	h := sha256.Sum256([]byte("d" + string(size) + word))
	return string(h[:16])
}

// firstMark is what `feed` tells of the record that `put ann t r v` makes as a source's first one.
func firstMark(t *testing.T, secret string) string {
	t.Helper()
	s, err := source.New(secret)
	if err != nil {
		t.Fatal(err)
	}
	r, err := s.Do(api.Event{Kind: api.Put, Subject: "ann", Table: "t", Row: "r", Value: "v"})
	if err != nil {
		t.Fatal(err)
	}
	return hex.EncodeToString([]byte(feed.Mark(r)[:4]))
}

// TestWorkedOut (11.1): what is answered was worked out apart from the program.
func TestWorkedOut(t *testing.T) {
	wantTalk(t, talk{
		{"put ann mail box a b", "put 1 1 36"},
		{"put bob mail in", "error 3"},
		{"put bob mail in v", "put 2 1 33"},
		{"read x 1", "read 1"},
		{"feed", "feed 23fc30bd 3104e526"},
		{"wire 1", "wire 23fc30bd41474852956c62ee99d454ca0103616e6e01000000000000000000000000000000000024ce96c1fb9ebf6010b344041076c64ef1d934906022084d264ec3a7ab149f73290b82a05e"},
		{"wire 2", "wire 3104e52653f2d963a186d82014e86af70203626f620123fc30bd41474852956c62ee99d454ca0021354bd95c6cc6576874f5abe6e339176ed1883697bb32a0f507b6db20273bd2e02a"},
		{"del bob mail in", "del 3 1 31"},
		{"gone ann", "gone 4 0 8"},
		{"put ann mail box again", "put 5 2 38"},
		{"read x 9", "read 5"},
		{"read y 9", "read 5"},
		{"lost x", "lost 0"},
		{"lost y", "lost 1"},
		{"rows x", "rows mail.box:ann=again"},
		{"rows y", "rows mail.box:ann=again"},
		{"cells", "cells mail.box:ann=again"},
		{"subjects", "subjects ann bob"},
		{"feed", "feed 23fc30bd 3104e526 6cd331f6 5db7e2be 43206f99"},
		{"wire 4", "wire 5db7e2bebdd543b0e60a2e8319f955400403616e6e006cd331f69f710715f6af407ba50a73020008676f6e6520616e6e"},
		{"wire 5", "wire 43206f999f9157260801186760c693b30503616e6e025db7e2bebdd543b0e60a2e8319f9554000261afc03baa087f159a41b189495092089978e38335d9a239c9d7228916fc199c4b2b7204f9283"},
		{"wire 6", "error 7"},
		{"new w", "new"},
		{"feed", "feed"},
		{"put ann mail box a b", "put 1 1 36"},
		{"wire 1", "wire a936edb5b22512a23a64c8329ad66a8a0103616e6e01000000000000000000000000000000000024615804404eec093fc5625ff82dacbcdea0bc213c1938e0dfed1e607056ffda63632fedbf"},
		{"feed", "feed a936edb5"},
	})
}

// TestNew (11.1): all begins anew: no rows, no records, no keys, no readers, nothing kept.
func TestNew(t *testing.T) {
	wantTalk(t, talk{
		{"put ann t r v", "put 1 1 29"}, {"put bob t s w", "put 2 1 29"}, {"gone bob", "gone 3 0 8"}, {"read x 9", "read 3"}, {"lost x", "lost 1"}, {"save x", "save 3"},
		{"new w", "new"},
		{"load x", "error 1"}, {"load z", "error 1"}, {"rows x", "rows"}, {"lost x", "lost 0"}, {"read x 9", "read 0"},
		{"cells", "cells"}, {"feed", "feed"}, {"subjects", "subjects"}, {"wire 1", "error 7"}, {"del ann t r", "error 7"}, {"gone ann", "error 8"}, {"gone bob", "error 8"},
		{"put bob t r v", "put 1 1 29"}, {"read x 9", "read 1"}, {"rows x", "rows t.r:bob=v"}, {"save x", "save 1"},
		{"new", "error 3"}, {"new a b", "error 3"}, {"load y", "load 1"}, {"cells", "cells t.r:bob=v"}, {"subjects", "subjects bob"},
		{"new w", "new"}, {"cells", "cells"}, {"load y", "error 1"}, {"rows y", "rows"},
	})
}

// TestSecrets (11.1): the secret hangs on the word, and is `d(T)`: of any word, however long; at first of the empty one.
func TestSecrets(t *testing.T) {
	first := "feed " + firstMark(t, secretApart(""))
	l := talk{{"put ann t r v", "put 1 1 29"}, {"feed", first}}
	seen := map[string]string{first: ""}
	for _, word := range []string{"w", "W", "ww", "new", "a\tb", "\x00", "\xff", "é", "0123456789abcdef", secretApart("")[:1] + "x", strings.Repeat("w", 16), strings.Repeat("w", 17), strings.Repeat("w", 5000)} {
		told := "feed " + firstMark(t, secretApart(word))
		if before, ok := seen[told]; ok {
			t.Errorf("the words %.50q and %.50q have one secret", before, word)
		}
		seen[told] = word
		l = append(l, talk{{"new " + word, "new"}, {"put ann t r v", "put 1 1 29"}, {"feed", told}}...)
	}
	l = append(l, talk{{"new w", "new"}, {"put ann t r v", "put 1 1 29"}, {"feed", "feed " + firstMark(t, secretApart("w"))}}...)
	wantTalk(t, l)
}

// TestPut (11.1): the words with one blank between are the event; Parse's errors, and behind them Do's.
func TestPut(t *testing.T) {
	wantTalk(t, talk{
		{"put ann mail box a b", "put 1 1 36"}, {"cells", "cells mail.box:ann=a_b"},
		{"  put   ann  mail    box  a     b  ", "put 2 1 36"}, {"cells", "cells mail.box:ann=a_b"},
		{"put ann mail box a b c d", "put 3 1 40"}, {"cells", "cells mail.box:ann=a_b_c_d"},
		{"put ann mail box a                                   b", "put 4 1 36"},
		// No line can tell an empty value: there is no blank behind the last word.
		{"put ann mail box", "error 3"}, {"put ann mail box ", "error 3"}, {"put ann mail box   ", "error 3"},
		{"put", "error 3"}, {"put ", "error 3"}, {"put ann", "error 3"}, {"put ann mail", "error 3"},
		{"put Ann mail box v", "error 3"}, {"put ann Mail box v", "error 3"}, {"put ann mail 1 v", "error 3"}, {"put abcdefghijk t r v", "error 3"},
		{"put ann t r " + longest, "put 5 1 48"}, {"put ann t r " + longest + "u", "error 3"}, {"put bob mail box " + longest + "u", "error 3"},
		{"put ann t r a b c d e f g h i jk", "put 6 1 48"}, {"put ann t r a b c d e f g h i jkl", "error 3"}, {"put ann t r a b c d e f g h i j k", "error 3"},
		{"put ann t r \x7f", "error 3"}, {"put ann t r a\tb", "error 3"}, {"put ann t r é", "error 3"}, {"put ann t r \xff", "error 3"}, {"put ann t r v\r", "error 3"},
		{"put ann t r ~", "put 7 1 29"}, {"put ann t r !_", "put 8 1 30"},
		{"put bob mail box v", "error 13"}, {"put bob mail in v", "put 9 1 33"}, {"put ann mail in v", "error 13"},
		{"put put put put put", "put 10 1 35"},
		{"cells", "cells mail.box:ann=a_b mail.in:bob=v put.put:put=put t.r:ann=!_"},
	})
}

// TestDel (11.1): of its own row; Parse's errors, and behind them Do's.
func TestDel(t *testing.T) {
	wantTalk(t, talk{
		{"del ann t r", "error 7"}, {"put ann t r v", "put 1 1 29"}, {"put bob t s v", "put 2 1 29"},
		{"del", "error 3"}, {"del ann", "error 3"}, {"del ann t", "error 3"}, {"del ann t r v", "error 3"}, {"del Ann t r", "error 3"}, {"del ann t 1", "error 3"},
		{"del bob t r", "error 7"}, {"del ann t s", "error 7"}, {"del ann t q", "error 7"}, {"del new t r", "error 7"},
		{"cells", "cells t.r:ann=v t.s:bob=v"}, {" del  ann  t  r ", "del 3 1 27"}, {"cells", "cells t.s:bob=v"},
		{"del ann t r", "error 7"}, {"put bob t r w", "put 4 1 29"}, {"del ann t r", "error 7"}, {"del bob t r", "del 5 1 27"}, {"subjects", "subjects ann bob"},
	})
}

// TestGone (11.1): of who has a key; its record is open, of key 0; the next key is another one.
func TestGone(t *testing.T) {
	wantTalk(t, talk{
		{"gone ann", "error 8"}, {"put ann t r v", "put 1 1 29"}, {"put bob t s v", "put 2 1 29"},
		{"gone", "error 3"}, {"gone ann t", "error 3"}, {"gone Ann", "error 3"}, {"gone 1", "error 3"}, {"gone new", "error 8"}, {"subjects", "subjects ann bob"},
		{"  gone   ann  ", "gone 3 0 8"}, {"cells", "cells t.s:bob=v"}, {"subjects", "subjects bob"}, {"gone ann", "error 8"},
		{"put ann t r w", "put 4 2 29"}, {"gone ann", "gone 5 0 8"}, {"put ann t r x", "put 6 3 29"}, {"put bob t s x", "put 7 1 29"},
		{"gone bob", "gone 8 0 8"}, {"gone ann", "gone 9 0 8"}, {"subjects", "subjects"}, {"cells", "cells"},
		{"put z123456789 t r v", "put 10 1 36"}, {"gone z123456789", "gone 11 0 15"},
	})
}

// TestFull (11.1): of MaxFeed records; what Do tells ahead of ErrFull, and Parse ahead of that; a new one has room.
func TestFull(t *testing.T) {
	text, want := strings.Repeat("put ann t r v\n", 100), ""
	for seq := range 100 {
		want += "put " + strconv.Itoa(seq+1) + " 1 29\n"
	}
	behind := talk{
		{"put ann t r v", "error 12"}, {"put ann t s v", "error 12"}, {"del ann t r", "error 12"}, {"gone ann", "error 12"}, {"gone bob", "error 12"},
		{"put bob t r v", "error 13"}, {"del bob t r", "error 7"}, {"put bob t r", "error 3"},
		{"read x 100", "read 100"}, {"read x 101", "read 100"}, {"rows x", "rows t.r:ann=v"}, {"wire 101", "error 7"},
		{"new w", "new"}, {"put ann t r v", "put 1 1 29"},
	}
	wantSession(t, text+behind.lines(), want+behind.answers())
}

// TestRead (11.1): up to a number, of what there is; what was read stays read; each reader for itself.
func TestRead(t *testing.T) {
	wantTalk(t, talk{
		{"read x 0", "read 0"}, {"read x 5", "read 0"},
		{"put ann t r v", "put 1 1 29"}, {"put bob t s w", "put 2 1 29"}, {"put ann t q x", "put 3 1 29"},
		{"rows x", "rows"}, {"read x 0", "read 0"}, {"read x -1", "read 0"}, {"read x -9223372036854775808", "read 0"},
		{"read x 2", "read 2"}, {"rows x", "rows t.r:ann=v t.s:bob=w"}, {"read x 2", "read 2"}, {"read x 1", "read 2"}, {"read x 0", "read 2"}, {"read x -1", "read 2"},
		{"rows y", "rows"}, {"read y 1", "read 1"}, {"rows y", "rows t.r:ann=v"}, {"rows x", "rows t.r:ann=v t.s:bob=w"},
		{"read x 3", "read 3"}, {"read x 4", "read 3"}, {"read x 9223372036854775807", "read 3"}, {"rows x", "rows t.q:ann=x t.r:ann=v t.s:bob=w"},
		{"del ann t r", "del 4 1 27"}, {"rows x", "rows t.q:ann=x t.r:ann=v t.s:bob=w"}, {"read x 4", "read 4"}, {"rows x", "rows t.q:ann=x t.s:bob=w"},
		{"read z 99", "read 4"}, {"rows z", "rows t.q:ann=x t.s:bob=w"}, {"cells", "cells t.q:ann=x t.s:bob=w"}, {"lost z", "lost 0"},
	})
}

// TestNames (11.1): readers are called by any words.
func TestNames(t *testing.T) {
	l := talk{{"put ann t r v", "put 1 1 29"}}
	for _, name := range []string{"x", "X", "xx", "ann", "read", "1", "-1", "01", "\x00", "\xff", "\xfe", "é", "x\ty", "\t", "a.b:c=d", "_", strings.Repeat("x", 500), strings.Repeat("x", 501)} {
		l = append(l, talk{{"lost " + name, "lost 0"}, {"rows " + name, "rows"}, {"read " + name + " 1", "read 1"}, {"rows " + name, "rows t.r:ann=v"}}...)
	}
	wantTalk(t, l)
}

// TestLost (11.1): what was forgotten ahead of being read.
func TestLost(t *testing.T) {
	wantTalk(t, talk{
		{"lost x", "lost 0"}, {"put ann t r v", "put 1 1 29"}, {"put ann t s v", "put 2 1 29"}, {"put bob t q w", "put 3 1 29"}, {"read x 1", "read 1"}, {"lost x", "lost 0"},
		{"gone ann", "gone 4 0 8"}, {"lost x", "lost 0"}, {"rows x", "rows t.r:ann=v"}, {"read x 3", "read 3"}, {"lost x", "lost 1"}, {"rows x", "rows t.q:bob=w t.r:ann=v"},
		{"read x 4", "read 4"}, {"lost x", "lost 1"}, {"rows x", "rows t.q:bob=w"},
		{"read y 9", "read 4"}, {"lost y", "lost 2"}, {"rows y", "rows t.q:bob=w"}, {"lost z", "lost 0"},
		{"put ann t r u", "put 5 2 29"}, {"read y 9", "read 5"}, {"lost y", "lost 2"}, {"rows y", "rows t.q:bob=w t.r:ann=u"},
	})
}

// TestSaveLoad (11.1): one thing is kept, the last one; who is loaded goes on from there, apart from who was saved.
func TestSaveLoad(t *testing.T) {
	wantTalk(t, talk{
		{"load x", "error 1"}, {"put ann t r v", "put 1 1 29"}, {"put bob t s w", "put 2 1 29"}, {"read x 1", "read 1"}, {"load x", "error 1"}, {"rows x", "rows t.r:ann=v"},
		{"save x", "save 1"}, {"load y", "load 1"}, {"rows y", "rows t.r:ann=v"}, {"read y 9", "read 2"}, {"rows y", "rows t.r:ann=v t.s:bob=w"},
		{"rows x", "rows t.r:ann=v"}, {"load z", "load 1"}, {"rows z", "rows t.r:ann=v"}, {"read x 9", "read 2"}, {"rows z", "rows t.r:ann=v"},
		{"load x", "load 1"}, {"rows x", "rows t.r:ann=v"}, {"read x 0", "read 1"}, {"load y", "load 1"}, {"rows y", "rows t.r:ann=v"},
		{"read y 2", "read 2"}, {"save y", "save 2"}, {"load x", "load 2"}, {"rows x", "rows t.r:ann=v t.s:bob=w"}, {"rows z", "rows t.r:ann=v"},
		{"save new", "save 0"}, {"load x", "load 0"}, {"rows x", "rows"}, {"read x 9", "read 2"}, {"rows y", "rows t.r:ann=v t.s:bob=w"},
		{"save", "error 3"}, {"save a b", "error 3"}, {"load", "error 3"}, {"load y", "load 0"}, {"new w", "new"}, {"load y", "error 1"}, {"save y", "save 0"}, {"load y", "load 0"},
	})
}

// TestLoadBehindGone (11.1): what was saved ahead of a Gone has the rows that are forgotten by then, until that is read.
func TestLoadBehindGone(t *testing.T) {
	wantTalk(t, talk{
		{"put ann t r v", "put 1 1 29"}, {"put bob t s w", "put 2 1 29"}, {"put ann t q x", "put 3 1 29"}, {"read x 2", "read 2"}, {"save x", "save 2"},
		{"gone ann", "gone 4 0 8"}, {"put ann t r new", "put 5 2 31"}, {"load y", "load 2"}, {"rows y", "rows t.r:ann=v t.s:bob=w"}, {"lost y", "lost 0"},
		{"read y 3", "read 3"}, {"lost y", "lost 1"}, {"rows y", "rows t.r:ann=v t.s:bob=w"}, {"save y", "save 3"},
		{"read y 4", "read 4"}, {"rows y", "rows t.s:bob=w"}, {"read y 9", "read 5"}, {"rows y", "rows t.r:ann=new t.s:bob=w"},
		{"load z", "load 3"}, {"lost z", "lost 1"}, {"rows z", "rows t.r:ann=v t.s:bob=w"}, {"read z 9", "read 5"}, {"lost z", "lost 1"}, {"rows z", "rows t.r:ann=new t.s:bob=w"},
	})
}

// TestCells (11.1): none, one, several, by table, then row; each blank is told as _.
func TestCells(t *testing.T) {
	wantTalk(t, talk{
		{"cells", "cells"}, {"rows x", "rows"},
		{"put ann mail box a b", "put 1 1 36"}, {"cells", "cells mail.box:ann=a_b"},
		{"put bob u a x", "put 2 1 29"}, {"put ann t s a _ b", "put 3 1 33"}, {"put eve t r1 .:=", "put 4 1 32"}, {"put eve t r v", "put 5 1 29"}, {"put bob t10 a z", "put 6 1 31"}, {"put ann t1 z z", "put 7 1 30"},
		{"cells", "cells mail.box:ann=a_b t.r:eve=v t.r1:eve=.:= t.s:ann=a___b t1.z:ann=z t10.a:bob=z u.a:bob=x"},
		{"rows x", "rows"}, {"read x 1", "read 1"}, {"rows x", "rows mail.box:ann=a_b"}, {"read x 9", "read 7"},
		{"rows x", "rows mail.box:ann=a_b t.r:eve=v t.r1:eve=.:= t.s:ann=a___b t1.z:ann=z t10.a:bob=z u.a:bob=x"},
		{"put ann mail box a b c d e f g h i jk", "put 8 1 53"}, {"gone eve", "gone 9 0 8"}, {"gone bob", "gone 10 0 8"},
		{"cells", "cells mail.box:ann=a_b_c_d_e_f_g_h_i_jk t.s:ann=a___b t1.z:ann=z"},
	})
}

// TestWire (11.1): of a record that is there, from 1 on; else ErrMissing.
func TestWire(t *testing.T) {
	l := talk{{"wire 1", "error 7"}, {"wire 0", "error 7"}, {"put ann t r v", "put 1 1 29"}, {"put ann t r v", "put 2 1 29"}}
	for _, n := range []string{"0", "3", "4", "-1", "-2", "257", "258", "4294967297", "9223372036854775807", "-9223372036854775808", "-9223372036854775807"} {
		l = append(l, [2]string{"wire " + n, "error 7"})
	}
	wantTalk(t, l)
}

// TestSubjects (11.1): who has a key, in order.
func TestSubjects(t *testing.T) {
	wantTalk(t, talk{
		{"subjects", "subjects"}, {"put eve t r v", "put 1 1 29"}, {"subjects", "subjects eve"}, {"put ann t s v", "put 2 1 29"}, {"put bob t q v", "put 3 1 29"}, {"put b t p v", "put 4 1 27"},
		{"subjects", "subjects ann b bob eve"}, {"del b t p", "del 5 1 25"}, {"put ann t r v", "error 13"}, {"put zoe t r v", "error 13"}, {"subjects", "subjects ann b bob eve"}, {"gone bob", "gone 6 0 8"}, {"subjects", "subjects ann b eve"},
	})
}

// TestBlock (11.1): numbers from 0 to 2^32 - 1, else ErrArg; the blocks were worked out apart from the program.
func TestBlock(t *testing.T) {
	wantTalk(t, talk{
		{"block a 0", "block 7f29f6c3df511cb855da0e6618602182e636aadd6b9406f431391e844048c36b33f978eb1d0c855f65d8d5150b2b8c8bb218a97040438a7aa5805f626651eee0"},
		{"block a 1", "block 477f94baffd4a488390f25c8128348918790cb79e76775bdff081f3f65c3045ccae4ad7171f0acb2c3573c4517f5a5834cd0fba2594ec976057adf35bb1d5049"},
		{"block a 4294967295", "block 12901b4f35f866fb9bbdcab0e0e5b5df2eb9df3dd1ea0c1ff00955a523efb66f6b89146a2285b161c7822c08cf25b054388b31c31625868caa2d901c94a9a292"},
		{"block a 4294967296", "error 1"}, {"block a 4294967297", "error 1"}, {"block a -1", "error 1"}, {"block a -4294967295", "error 1"},
		{"block a 9223372036854775807", "error 1"}, {"block a -9223372036854775808", "error 1"}, {"block a", "error 3"}, {"block a 1 1", "error 3"},
	})
}

// TestSum (11.1): of no words, of one, of several with one blank between.
func TestSum(t *testing.T) {
	wantTalk(t, talk{
		{"sum", "sum e3b0c44298fc1c149afbf4c8996fb92427ae41e4649b934ca495991b7852b855"},
		{"sum   ", "sum e3b0c44298fc1c149afbf4c8996fb92427ae41e4649b934ca495991b7852b855"},
		{"sum abc", "sum ba7816bf8f01cfea414140de5dae2223b00361a396177a9cb410ff61f20015ad"},
		{"sum a", "sum ca978112ca1bbdcafac231b39a23dc4da786eff8147c4e72b9807785afee48bb"},
		{"sum a b", "sum c8687a08aa5d6ed2044328fa6a697ab8e96dc34291e8c2034ae8c38e6fcc6d65"},
		{"sum   a     b ", "sum c8687a08aa5d6ed2044328fa6a697ab8e96dc34291e8c2034ae8c38e6fcc6d65"},
		{"sum sum", sumApart("sum")}, {"sum \x00 \xff", sumApart("\x00 \xff")}, {"sum" + strings.Repeat(" ab", 1000), sumApart(strings.TrimSpace(strings.Repeat(" ab", 1000)))},
	})
}

// TestHelp (11.1): just that text, also behind other lines.
func TestHelp(t *testing.T) {
	wantTalk(t, talk{{"help", helpApart}, {"help help", "error 3"}, {"x", "error 3"}, {"new w", "new"}, {" help ", helpApart}})
}
