package ferry_test

import (
	"math/rand"
	"slices"
	"strings"
	"testing"

	"ferry/api"
	"ferry/ferry"
)

func TestP1EveryCallEnds(t *testing.T) {
	r := rand.New(rand.NewSource(6))
	texts := []string{"", "\x00", "\xff", strings.Repeat("\x00", 1<<22), strings.Repeat("\xff", 1<<22)}
	for b := range 256 {
		for _, n := range []int{0, 1, 2, 3, 22, 23, 24} {
			texts = append(texts, string([]byte{byte(b)})+randomText(r, n))
		}
	}
	for range 500 {
		texts = append(texts, randomText(r, r.Intn(2400)))
	}
	for _, text := range texts {
		ferry.OldSum(text)
		ferry.NewSum(text)
		ferry.ReadOld(text)
		ferry.WriteOld([]string{text, "a", text})
	}
	ferry.WriteOld(nil)
	ferry.WriteOld(make([]string, 1<<20))
	ferry.WriteOld(texts)
}

func TestP1NothingBesideAnError(t *testing.T) {
	long := strings.Repeat("x", api.MaxEntry+1)
	for _, entries := range [][]string{times(101, "a"), {"a", "b", long}, times(101, long)} {
		if old, e := ferry.WriteOld(entries); e == api.OK || old != "" {
			t.Errorf("WriteOld of %d entries = %.30q beside the error %d", len(entries), old, e)
		}
	}
	// A good beginning is not told either where the text is too long.
	if l, e, n := ferry.ReadOld(oldLog(times(100, "")) + strings.Repeat("\x00", 2001)); e != api.ErrLong || len(l) != 0 || n != 0 {
		t.Errorf("ReadOld of a text too long = %d entries, %d, %d", len(l), e, n)
	}
}

func TestP2AnswersHangOnArgumentsAlone(t *testing.T) {
	r := rand.New(rand.NewSource(7))
	for range 50 {
		entries := randomLog(r)
		old := oldLog(entries)
		weakSum, strongSum := ferry.OldSum(old), ferry.NewSum(old)
		// Calls that stand between two calls with the same argument, some with errors, leave no trace.
		ferry.WriteOld(times(101, "x"))
		ferry.WriteOld([]string{strings.Repeat("x", 21)})
		ferry.ReadOld("\x01a\x00\x00")
		ferry.ReadOld(oldLog(randomLog(r)))
		ferry.OldSum("x")
		ferry.NewSum(strings.Repeat("x", 100))
		if ferry.OldSum(old) != weakSum || ferry.NewSum(old) != strongSum {
			t.Errorf("a sum of %.30q changes from call to call", old)
		}
		wantWritten(t, entries, old, api.OK)
		wantRead(t, old, entries, api.OK, 0)
	}
}

func TestP2WriteOldLeavesItsListAlone(t *testing.T) {
	long := strings.Repeat("x", api.MaxEntry+1)
	for _, entries := range [][]string{{}, three, {"a", long}, times(100, "b"), times(101, "c")} {
		// The list is the beginning of a longer one, so that what stands behind it can be looked at.
		room := append(slices.Clone(entries), "behind", "it")
		before := slices.Clone(room)
		old, _ := ferry.WriteOld(room[:len(entries)])
		if !slices.Equal(room, before) {
			t.Errorf("WriteOld made %.60q of %.60q", room, before)
		}
		kept := strings.Clone(old)
		for i := range room {
			room[i] = "-"
		}
		if old != kept {
			t.Errorf("what WriteOld answered changes with its list")
		}
		again, _ := ferry.WriteOld(before[:len(entries)])
		if again != kept {
			t.Errorf("WriteOld answers %.60q, and later %.60q", kept, again)
		}
	}
}

func TestP2ReadOldAnswersNewLists(t *testing.T) {
	whole := oldLog(times(100, "ab"))
	for _, old := range []string{oldLog(three), oldLog(three) + "x", oldLog(three) + "\x00\x00\x00", whole, whole + "x"} {
		first, _, _ := ferry.ReadOld(old)
		second, _, _ := ferry.ReadOld(old)
		want := slices.Clone(second)
		room := second[:cap(second)]
		behind := slices.Clone(room)
		first = first[:cap(first)]
		for i := range first {
			first[i] = "-"
		}
		if !slices.Equal(second, want) || !slices.Equal(room, behind) {
			t.Errorf("two lists of ReadOld(%.30q) share memory", old)
		}
		third, _, _ := ferry.ReadOld(old)
		if !slices.Equal(third, want) {
			t.Errorf("ReadOld(%.30q) = %.60q, once its first answer was written into", old, third)
		}
	}
}
