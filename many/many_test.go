package many

import (
	"errors"
	"math"
	"slices"
	"strconv"
	"strings"
	"sync"
	"testing"

	"oubliette/api"
	"oubliette/desk"
)

// numbersOfWorkers are all that there may be.
func numbersOfWorkers() []int {
	var out []int
	for n := range 16 {
		out = append(out, n+1)
	}
	return out
}

// some are so many texts, no two of them of the same answer: they have the same names, and other values; some take long, some are over at once.
func some(size int) []string {
	var out []string
	for i := range size {
		own := strconv.Itoa(i)
		text := "sum " + own + "\nput ann t r " + own + "\nread x 9\nsave x\ncells\n"
		for range (i * 7 % 5) * 9 {
			text += "put ann t r " + own + "\nfeed\nload y\n"
		}
		if i%3 == 0 {
			text += "gone ann\nnew w" + own + "\n"
		}
		out = append(out, text+"put bob t s "+own+"\nwire 1\nrows x\ncells\nsubjects\nfeed")
	}
	return out
}

func wantAll(t *testing.T, texts []string, workers int, want []string) {
	t.Helper()
	before := slices.Clone(texts)
	got, err := All(texts, workers)
	if err != nil || len(got) != len(want) {
		t.Fatalf("All of %d texts by %d workers: %d answers, %v", len(texts), workers, len(got), err)
	}
	for i := range want {
		if got[i] != want[i] {
			t.Errorf("All by %d workers, text %d: %.300q, want %.300q", workers, i, got[i], want[i])
		}
	}
	if !slices.Equal(texts, before) {
		t.Errorf("All by %d workers wrote into its texts", workers)
	}
}

// wantLimit: ErrLimit, without a place (P3), and no answers beside it (P2).
func wantLimit(t *testing.T, texts []string, workers int) {
	t.Helper()
	got, err := All(texts, workers)
	if got != nil || api.Tell(err) != api.ErrLimit {
		t.Errorf("All of %d texts by %d workers: %.100q, %v", len(texts), workers, got, err)
	}
	var at *api.At
	if errors.As(err, &at) {
		t.Errorf("the error has a place, %d", at.Place)
	}
}

func sessions(texts []string) []string {
	var out []string
	for _, text := range texts {
		out = append(out, desk.Session(text))
	}
	return out
}

// TestHowMany (12.1): none, one, 50 of them, and no more; whatever the texts are.
func TestHowMany(t *testing.T) {
	for _, workers := range numbersOfWorkers() {
		wantAll(t, nil, workers, nil)
		wantAll(t, []string{}, workers, nil)
		wantAll(t, []string{""}, workers, []string{"ok\n"})
		wantAll(t, []string{"sum", "x", "\n\n"}, workers, []string{desk.Session("sum"), "error 3\n", "ok\nok\n"})
		wantAll(t, make([]string, 49), workers, slices.Repeat([]string{"ok\n"}, 49))
		wantAll(t, make([]string, 50), workers, slices.Repeat([]string{"ok\n"}, 50))
		wantLimit(t, make([]string, 51), workers)
		wantLimit(t, make([]string, 52), workers)
		wantLimit(t, some(51), workers)
		wantLimit(t, make([]string, 5000), workers)
	}
}

// TestWorkers (12.1): from 1 to 16, and no others, also if there is nothing for them to do.
func TestWorkers(t *testing.T) {
	texts := some(3)
	for _, workers := range []int{0, -1, -16, 17, 18, 50, 100, 257, 1<<32 + 1, math.MaxInt, math.MinInt, math.MinInt + 1} {
		for size := range len(texts) + 1 {
			wantLimit(t, texts[:size], workers)
		}
		wantLimit(t, make([]string, 50), workers)
		wantLimit(t, make([]string, 51), workers)
	}
}

// TestOrder (12.1): each text's Session, in the texts' order, however many workers there are.
func TestOrder(t *testing.T) {
	texts := some(50)
	want := sessions(texts)
	for _, workers := range numbersOfWorkers() {
		wantAll(t, texts, workers, want)
	}
	slices.Reverse(texts)
	slices.Reverse(want)
	for _, workers := range []int{1, 2, 7, 16} {
		wantAll(t, texts, workers, want)
		for size := range 20 {
			wantAll(t, texts[:size], workers, want[:size])
		}
	}
}

// TestApart (12.1): two texts that both make a source, readers and something kept: neither is seen in the other's answers.
func TestApart(t *testing.T) {
	one := "put ann t r one\nread x 9\nsave x\nnew w\nput ann t r two\nread x 9\nrows x\nload y\ncells"
	two := "cells\nrows x\nload x\nsubjects\nput bob t r w\ngone bob\ncells\nsubjects\nload x\nput eve t r v\ncells"
	want := []string{
		"put 1 1 31\nread 1\nsave 1\nnew\nput 1 1 31\nread 1\nrows t.r:ann=two\nerror 1\ncells t.r:ann=two\n",
		"cells\nrows\nerror 1\nsubjects\nput 1 1 29\ngone 2 0 8\ncells\nsubjects\nerror 1\nput 3 1 29\ncells t.r:eve=v\n",
	}
	for _, workers := range numbersOfWorkers() {
		wantAll(t, []string{one, two}, workers, want)
		wantAll(t, []string{two, one}, workers, []string{want[1], want[0]})
		wantAll(t, slices.Repeat([]string{one, two}, 25), workers, slices.Repeat(want, 25))
		wantAll(t, slices.Repeat([]string{one}, 50), workers, slices.Repeat(want[:1], 50))
	}
}

// TestWrongTexts (12.1): a text that is too long is answered at its own place, and is no error of All.
func TestWrongTexts(t *testing.T) {
	long := strings.Repeat("x", api.MaxText+1)
	for _, workers := range numbersOfWorkers() {
		wantAll(t, []string{long, "help x", long, "", long[1:]}, workers, []string{"error 4\n", "error 3\n", "error 4\n", "ok\n", "error 3\n"})
		wantAll(t, []string{"\xff\x00", " ", "new"}, workers, []string{"error 3\n", "ok\n", "error 3\n"})
	}
}

// TestLists (P4): what stands behind the texts is not looked at or written into; answers are fresh memory.
func TestLists(t *testing.T) {
	texts := some(60)
	whole := slices.Clone(texts)
	want := sessions(texts[:5])
	one, err := All(texts[:5], 3)
	if err != nil {
		t.Fatal(err)
	}
	two, err := All(texts[:5], 3)
	if err != nil {
		t.Fatal(err)
	}
	clear(one)
	clear(one[:cap(one)])
	_ = append(one, "behind")
	if !slices.Equal(two, want) || !slices.Equal(texts, whole) {
		t.Errorf("%q, want %q", two, want)
	}
	clear(texts)
	if !slices.Equal(two, want) {
		t.Errorf("behind a change of the texts: %q, want %q", two, want)
	}
}

// TestAtOneTime (12.1, P4): also if it is asked by several at the same time.
func TestAtOneTime(t *testing.T) {
	texts := some(20)
	want := sessions(texts)
	var asking sync.WaitGroup
	for _, workers := range numbersOfWorkers() {
		asking.Go(func() {
			got, err := All(texts, workers)
			if err != nil || !slices.Equal(got, want) {
				t.Errorf("by %d workers: %.300q, %v", workers, got, err)
			}
		})
	}
	asking.Wait()
}
