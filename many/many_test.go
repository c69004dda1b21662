package many_test

import (
	"fmt"
	"math"
	"slices"
	"strings"
	"sync"
	"testing"

	"millpond/api"
	"millpond/desk"
	"millpond/many"
	"millpond/plain"
)

// drawn are so many texts, some long, some short, each of which is answered otherwise than the others.
func drawn(n int) []string {
	texts := make([]string, 0, n)
	for i := range n {
		text := fmt.Sprintf("create t a%d:int\ndo t\n", i)
		for j := range i * 7 % 30 {
			text += fmt.Sprintf("put %d\ninsert u%d\ndo u%d\nrows\n", i*j, j, j)
		}
		texts = append(texts, text+"columns")
	}
	return texts
}

// sessions are the answers of texts, one by one.
func sessions(texts []string) []string {
	var answers []string
	for _, text := range texts {
		answers = append(answers, desk.Session(text))
	}
	return answers
}

// limit says whether All tells ErrLimit, at no place, and nothing else.
func limit(t *testing.T, texts []string, workers int) {
	t.Helper()
	got, err := many.All(texts, workers)
	if e, place := plain.Place(err); e != api.ErrLimit || place != -1 || got != nil {
		t.Errorf("%d texts, %d workers: %d answers, error %d at %d", len(texts), workers, len(got), e, place)
	}
}

// 14.1: ErrLimit: more than 50 texts, or workers is not from 1 to 16.
func TestLimit(t *testing.T) {
	for _, workers := range []int{0, -1, 17, 100, math.MaxInt, math.MinInt} {
		for _, n := range []int{0, 1, 50, 51} {
			limit(t, make([]string, n), workers)
		}
	}
	for _, workers := range []int{1, 2, 16} {
		limit(t, make([]string, 51), workers)
		limit(t, make([]string, 10_000), workers)
		for _, n := range []int{0, 1, 2, 49, 50} {
			got, err := many.All(make([]string, n), workers)
			if err != nil || len(got) != n {
				t.Errorf("%d texts, %d workers: %d answers, %v", n, workers, len(got), err)
			}
		}
	}
}

// 14.1: Session of each, in order, however many workers there are.
func TestInOrder(t *testing.T) {
	for _, n := range []int{1, 2, 3, 15, 16, 17, 50} {
		texts := drawn(n)
		want := sessions(texts)
		for workers := 1; workers <= 16; workers++ {
			got, err := many.All(texts, workers)
			if err != nil || !slices.Equal(got, want) {
				t.Errorf("%d texts, %d workers: not the sessions in order, %v", n, workers, err)
			}
		}
	}
}

// 14.1: what one text leaves is not there for another one, and what is wrong with one is no error of all.
func TestEachAlone(t *testing.T) {
	texts := []string{
		"create t a:int\ndo t\nput 1", "insert u", "create t b:text\ndo t\ncolumns", "do t", "", "\n\n", "x", strings.Repeat("x", api.MaxText+1), "version", "version",
	}
	want := []string{
		"create 0\ndo 1\nput\n", "error 6\n", "create 0\ndo 1\ncolumns 1:b\n", "error 7\n", "ok\n", "ok\nok\n", "error 3\n", "error 4\n", "version 0\n", "version 0\n",
	}
	for _, workers := range []int{1, 2, 5, 16} {
		if got, err := many.All(texts, workers); err != nil || !slices.Equal(got, want) {
			t.Errorf("%d workers: %q, %v", workers, got, err)
		}
	}
}

// P4: the texts are not written into, nor what stands behind them, and the answers are the caller's.
func TestTextsStay(t *testing.T) {
	room := append(drawn(9), "behind")
	texts := room[:9]
	was := slices.Clone(room)
	got, err := many.All(texts, 4)
	if err != nil || !slices.Equal(room, was) {
		t.Fatalf("the texts are not as they were, %v", err)
	}
	want := slices.Clone(got)
	clear(texts)
	if !slices.Equal(got, want) {
		t.Error("the answers hang on texts that were written into behind them")
	}
	clear(got)
	if again, err := many.All(was[:9], 4); err != nil || !slices.Equal(again, want) {
		t.Error("the answers hang on those that were written into")
	}
}

// P4: what a call answers hangs on its arguments alone, also if there are several at once.
func TestAtOnce(t *testing.T) {
	texts := drawn(12)
	want := sessions(texts)
	var calls sync.WaitGroup
	for workers := 1; workers <= 16; workers++ {
		calls.Go(func() {
			if got, err := many.All(texts, workers); err != nil || !slices.Equal(got, want) {
				t.Errorf("%d workers: not the sessions in order, %v", workers, err)
			}
		})
	}
	calls.Wait()
}
