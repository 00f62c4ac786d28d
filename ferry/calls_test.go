package ferry_test

import (
	"math"
	"math/rand"
	"slices"
	"strings"
	"testing"

	"ferry/api"
	"ferry/ferry"
)

func TestP1EveryCallEnds(t *testing.T) {
	r := rand.New(rand.NewSource(6))
	texts := []string{"", "\x00", "\xff", strings.Repeat("\x00", 1<<22), strings.Repeat("\xff", 1<<22)}
	for b := range 256 {
		for _, n := range []int{0, 1, 2, 3, 22, 23, 24} {
			texts = append(texts, string([]byte{byte(b)})+randomText(r, n))
		}
	}
	for range 500 {
		texts = append(texts, randomText(r, r.Intn(2400)))
	}
	for _, text := range texts {
		ferry.OldSum(text)
		ferry.NewSum(text)
		ferry.ReadOld(text)
		ferry.WriteOld([]string{text, "a", text})
	}
	ferry.WriteOld(nil)
	ferry.WriteOld(make([]string, 1<<20))
	ferry.WriteOld(texts)
}

// oddNumbers: small ones, those at bounds, and the least and the greatest that there are.
var oddNumbers = []int{0, 1, 2, 3, 7, 99, 100, 101, 1<<30 - 1, 1 << 30, 1<<30 + 1, 1<<31 - 1, 1 << 31, 1 << 32, 1 << 62, math.MaxInt - 1, math.MaxInt, -1, -2, -100, -1 << 30, -1 << 31, -1 << 62, math.MinInt + 1, math.MinInt}

func TestP1EveryTreeCallEnds(t *testing.T) {
	long := strings.Repeat("\xff", 1<<22)
	for _, entries := range [][]string{nil, {}, {""}, {long}, three, {"a", long}, times(100, ""), times(101, long), times(1<<20, "")} {
		ferry.Root(entries)
		for _, i := range oddNumbers {
			ferry.Prove(entries, i)
		}
	}
	for _, length := range []int{0, 1, 2, 29, 30, 31, 62, 63, 64, 1 << 16} {
		path := make([]api.Digest, length)
		for _, n := range oddNumbers {
			for _, i := range append([]int{n - 1, n, n + 1, n / 2}, oddNumbers...) {
				ferry.Verify(api.Digest{}, n, i, "", path)
			}
		}
		ferry.Verify(api.Digest{}, 1, 0, long, path)
	}
	ferry.Verify(api.Digest{}, 0, 0, "", nil)
}

func TestP1EveryDiskCallEnds(t *testing.T) {
	r := rand.New(rand.NewSource(20))
	disks := [][]api.Sector{nil, {}, make([]api.Sector, 1), make([]api.Sector, 2), make([]api.Sector, 1<<16), randomSectors(r, 2), randomSectors(r, 300)}
	for range 20 {
		disks = append(disks, changed(r, carriedDisk(t, manyEntries(20), 60, 7)))
	}
	olds := []string{"", "\x00", oldLog(three), oldLog(three) + "x", oldLog(times(100, "ab")), strings.Repeat("\xff", 1<<22)}
	for range 20 {
		olds = append(olds, randomText(r, r.Intn(2400)))
	}
	for _, n := range oddNumbers {
		ferry.Format(n)
	}
	for _, disk := range disks {
		ferry.Status(disk)
		ferry.Entries(disk)
		for _, old := range olds {
			for _, n := range oddNumbers {
				ferry.Step(old, disk, n)
			}
		}
	}
}

func TestP1EveryProofCallEnds(t *testing.T) {
	r := rand.New(rand.NewSource(36))
	long := strings.Repeat("\xff", 1<<20)
	lists := [][]string{nil, {}, {""}, {long}, three, {"a", long}, times(99, ""), times(100, "ab"), times(101, ""), times(1<<16, "")}
	olds := []string{"", "\x00", long, oldLog(three), oldLog(three) + "x", oldLog(times(100, "ab")), randomText(r, 2300)}
	for _, list := range lists {
		for _, n := range oddNumbers {
			ferry.OldProve(list, n)
			p := api.OldProof{Before: uint16(n), Rest: list}
			for _, i := range append([]int{n - 1, n, n + 1, n - 1 - len(list), n - len(list)}, oddNumbers...) {
				ferry.OldVerify(0, n, i, "", p)
			}
			for _, old := range olds {
				ferry.Translate(old, n, "", p)
				ferry.Translate(old, n, "ab", p)
			}
		}
		ferry.OldVerify(0, 1+len(list), 0, long, api.OldProof{Rest: list})
		ferry.Translate(oldLog(three), 2-len(list), long, api.OldProof{Rest: list})
	}
}

func TestP1NothingBesideAnError(t *testing.T) {
	long := strings.Repeat("x", api.MaxEntry+1)
	for _, entries := range [][]string{times(101, "a"), {"a", "b", long}, times(101, long)} {
		if old, e := ferry.WriteOld(entries); e == api.OK || old != "" {
			t.Errorf("WriteOld of %d entries = %.30q beside the error %d", len(entries), old, e)
		}
	}
	for _, entries := range [][]string{times(101, "a"), {"a", "b", long}, times(101, long)} {
		if root, e := ferry.Root(entries); e == api.OK || root != (api.Digest{}) {
			t.Errorf("Root of %d entries = %x beside the error %d", len(entries), root, e)
		}
	}
	for _, entries := range [][]string{nil, three, times(101, "a"), {"a", "b", long}, times(101, long)} {
		for _, i := range []int{-1, len(entries), math.MaxInt, math.MinInt} {
			if path, e := ferry.Prove(entries, i); e == api.OK || len(path) != 0 {
				t.Errorf("Prove of %d entries, entry %d, = %d roots beside the error %d", len(entries), i, len(path), e)
			}
		}
	}
	for _, entries := range [][]string{nil, three, times(101, "a"), {"a", "b", long}, times(101, long)} {
		for _, i := range []int{-1, len(entries), math.MaxInt, math.MinInt} {
			if p, e := ferry.OldProve(entries, i); e == api.OK || p.Before != 0 || len(p.Rest) != 0 {
				t.Errorf("OldProve of %d entries, entry %d, = %04x and %d texts beside the error %d", len(entries), i, p.Before, len(p.Rest), e)
			}
		}
	}
	for _, old := range []string{strings.Repeat("x", 2301), oldLog(three) + "x", oldLog(three) + "\x00\x00\x00", oldLog(three), ""} {
		for _, i := range []int{-1, 0, 1, 3} {
			if c, e := ferry.Translate(old, i, "b", proofOf(three, 1)); e == api.OK || len(c.Proof) != 0 || c.Left != "" || c.Right != "" {
				t.Errorf("Translate of %.30q, entry %d, = %d roots, %q, %q beside the error %d", old, i, len(c.Proof), c.Left, c.Right, e)
			}
		}
	}
	if disk, e := ferry.Format(301); e == api.OK || len(disk) != 0 {
		t.Errorf("Format(301) = %d sectors beside the error %d", len(disk), e)
	}
	full, whole := carriedDisk(t, []string{"a"}, 2, 1), carriedDisk(t, three, 9, 3)
	for _, c := range []struct {
		old    string
		disk   []api.Sector
		batch  int
		fault  api.Errno
		number int
	}{
		{oldLog(three), whole[:1], 1, api.ErrDisk, 0}, {oldLog(three), whole, 0, api.ErrBatch, 0}, {strings.Repeat("x", 2301), whole, 1, api.ErrLong, 0},
		{oldLog(three) + "x", whole, 1, api.ErrFrame, 3}, {oldLog(three) + "\x00\x00\x00", whole, 1, api.ErrLink, 3}, {oldLog(three), whole, 1, api.ErrDone, 0},
		{oldLog(times(9, strings.Repeat("x", 20))), full, 8, api.ErrFull, 0},
	} {
		wantFault(t, c.old, c.disk, c.batch, c.fault, c.number)
	}
	// A good beginning is not told either where the text is too long.
	if l, e, n := ferry.ReadOld(oldLog(times(100, "")) + strings.Repeat("\x00", 2001)); e != api.ErrLong || len(l) != 0 || n != 0 {
		t.Errorf("ReadOld of a text too long = %d entries, %d, %d", len(l), e, n)
	}
}

func TestP2AnswersHangOnArgumentsAlone(t *testing.T) {
	r := rand.New(rand.NewSource(7))
	for range 50 {
		entries := randomLog(r)
		old := oldLog(entries)
		weakSum, strongSum := ferry.OldSum(old), ferry.NewSum(old)
		// Calls that stand between two calls with the same argument, some with errors, leave no trace.
		ferry.WriteOld(times(101, "x"))
		ferry.WriteOld([]string{strings.Repeat("x", 21)})
		ferry.ReadOld("\x01a\x00\x00")
		ferry.ReadOld(oldLog(randomLog(r)))
		ferry.OldSum("x")
		ferry.NewSum(strings.Repeat("x", 100))
		ferry.Root(randomLog(r))
		ferry.Prove(three, 1)
		ferry.Prove(three, 3)
		ferry.Verify(strongSum, 3, 1, "a", []api.Digest{strongSum, strongSum})
		ferry.Format(7)
		ferry.Status(randomSectors(r, 5))
		ferry.Step(oldLog(three), make([]api.Sector, 9), 2)
		if ferry.OldSum(old) != weakSum || ferry.NewSum(old) != strongSum {
			t.Errorf("a sum of %.30q changes from call to call", old)
		}
		wantWritten(t, entries, old, api.OK)
		wantRead(t, old, entries, api.OK, 0)
		wantRoot(t, entries, rootOf(entries), api.OK)
		for i := range entries {
			path := pathOf(levels(entries), i)
			wantPath(t, entries, i, path, api.OK)
			wantVerified(t, rootOf(entries), len(entries), i, entries[i], path, true)
		}
	}
}

func TestP2WriteOldLeavesItsListAlone(t *testing.T) {
	long := strings.Repeat("x", api.MaxEntry+1)
	for _, entries := range [][]string{{}, three, {"a", long}, times(100, "b"), times(101, "c")} {
		// The list is the beginning of a longer one, so that what stands behind it can be looked at.
		room := append(slices.Clone(entries), "behind", "it")
		before := slices.Clone(room)
		old, _ := ferry.WriteOld(room[:len(entries)])
		if !slices.Equal(room, before) {
			t.Errorf("WriteOld made %.60q of %.60q", room, before)
		}
		kept := strings.Clone(old)
		for i := range room {
			room[i] = "-"
		}
		if old != kept {
			t.Errorf("what WriteOld answered changes with its list")
		}
		again, _ := ferry.WriteOld(before[:len(entries)])
		if again != kept {
			t.Errorf("WriteOld answers %.60q, and later %.60q", kept, again)
		}
	}
}

func TestP2ReadOldAnswersNewLists(t *testing.T) {
	whole := oldLog(times(100, "ab"))
	for _, old := range []string{oldLog(three), oldLog(three) + "x", oldLog(three) + "\x00\x00\x00", whole, whole + "x"} {
		first, _, _ := ferry.ReadOld(old)
		second, _, _ := ferry.ReadOld(old)
		want := slices.Clone(second)
		room := second[:cap(second)]
		behind := slices.Clone(room)
		first = first[:cap(first)]
		for i := range first {
			first[i] = "-"
		}
		if !slices.Equal(second, want) || !slices.Equal(room, behind) {
			t.Errorf("two lists of ReadOld(%.30q) share memory", old)
		}
		third, _, _ := ferry.ReadOld(old)
		if !slices.Equal(third, want) {
			t.Errorf("ReadOld(%.30q) = %.60q, once its first answer was written into", old, third)
		}
	}
}

func TestP2RootAndProveLeaveTheirListAlone(t *testing.T) {
	long := strings.Repeat("x", api.MaxEntry+1)
	for _, entries := range [][]string{{}, {"a"}, three, manyEntries(64), manyEntries(65), {"a", long}, manyEntries(100), times(101, "c")} {
		room := append(slices.Clone(entries), "behind", "it")
		before := slices.Clone(room)
		root, _ := ferry.Root(room[:len(entries)])
		for i := -1; i <= len(entries); i++ {
			path, _ := ferry.Prove(room[:len(entries)], i)
			if !slices.Equal(room, before) {
				t.Fatalf("Root or Prove made %.60q of %.60q", room, before)
			}
			kept := slices.Clone(path)
			for k := range room {
				room[k] = "-"
			}
			if !slices.Equal(path, kept) {
				t.Errorf("what Prove answered changes with its list")
			}
			copy(room, before)
		}
		again, _ := ferry.Root(room[:len(entries)])
		if again != root {
			t.Errorf("Root answers %x, and later %x", root, again)
		}
	}
}

func TestP2ProveAnswersNewLists(t *testing.T) {
	for _, n := range []int{2, 3, 4, 5, 8, 9, 64, 65, 100} {
		entries := manyEntries(n)
		all := levels(entries)
		for i := range entries {
			first, _ := ferry.Prove(entries, i)
			second, _ := ferry.Prove(entries, i)
			room := second[:cap(second)]
			behind := slices.Clone(room)
			first = first[:cap(first)]
			for k := range first {
				first[k] = otherBit(first[k], k)
			}
			if !slices.Equal(room, behind) {
				t.Errorf("two paths of entry %d of %d share memory", i, n)
			}
			wantPath(t, entries, i, pathOf(all, i), api.OK)
		}
	}
}

func TestP2VerifyLeavesItsPathAlone(t *testing.T) {
	eachProof(func(root api.Digest, n, i int, entry string, path []api.Digest) {
		room := append(slices.Clone(path), root, api.Digest{1})
		before := slices.Clone(room)
		for length := range len(room) + 1 {
			wantVerified(t, root, n, i, entry, room[:length], length == len(path))
			wantVerified(t, root, n, i, entry+"!", room[:length], false)
		}
		if !slices.Equal(room, before) {
			t.Errorf("Verify of entry %d of %d wrote into its path", i, n)
		}
	})
}

func TestP2DiskCallsHangOnArgumentsAlone(t *testing.T) {
	r := rand.New(rand.NewSource(21))
	disk := carriedDisk(t, manyEntries(9), 60, 4)
	old := oldLog(manyEntries(20))
	plan, _, _ := ferry.Step(old, disk, 5)
	for range 50 {
		ferry.Format(2 + r.Intn(299))
		other := carriedDisk(t, three, 9, 1+r.Intn(3))
		ferry.Step(oldLog(randomLog(r)), other, 1+r.Intn(100))
		ferry.Step(old, disk, 1+r.Intn(100))
		ferry.Step("x", disk, 1)
		again, e, n := ferry.Step(old, disk, 5)
		if !slices.Equal(again, plan) || e != api.OK || n != 0 {
			t.Fatalf("Step answers another plan with the same arguments: %d, %d", e, n)
		}
		wantOneOf(t, disk, carriedOf(manyEntries(9)))
		wantOneOf(t, formatted(t, 60), carriedOf(nil))
	}
}

func TestP2DiskCallsLeaveTheirListAlone(t *testing.T) {
	r := rand.New(rand.NewSource(22))
	disks := [][]api.Sector{nil, make([]api.Sector, 1), formatted(t, 2), formatted(t, 60), carriedDisk(t, three, 9, 2), carriedDisk(t, manyEntries(50), 100, 7), noisy(t, r, formatted(t, 300)), noisy(t, r, carriedDisk(t, three, 300, 2)), randomSectors(r, 9), randomSectors(r, 301)}
	for _, disk := range disks {
		// The list is the beginning of a longer one, so that what stands behind it can be looked at.
		room := slices.Concat(disk, randomSectors(r, 5))
		before := slices.Clone(room)
		list := room[:len(disk)]
		count, root, fault := ferry.Status(list)
		entries, _ := ferry.Entries(list)
		var plans [][]api.Write
		for _, batch := range []int{0, 1, 5, 100} {
			plan, _, _ := ferry.Step(oldLog(manyEntries(100)), list, batch)
			plans = append(plans, plan, slices.Clone(plan))
		}
		if !slices.Equal(room, before) {
			t.Fatalf("a call wrote into a list of %d sectors, or behind it", len(disk))
		}
		kept := make([]string, len(entries))
		for i, entry := range entries {
			kept[i] = strings.Clone(entry)
		}
		copy(room, randomSectors(r, len(room)))
		if !slices.Equal(entries, kept) {
			t.Errorf("what Entries answered changes with its list")
		}
		for k := 0; k < len(plans); k += 2 {
			if !slices.Equal(plans[k], plans[k+1]) {
				t.Errorf("what Step answered changes with its list")
			}
		}
		again, sum, e := ferry.Status(before[:len(disk)])
		if again != count || sum != root || e != fault {
			t.Errorf("Status answers %d, %x, %d, and later %d, %x, %d", count, root, fault, again, sum, e)
		}
	}
}

func TestP2DiskCallsAnswerNewLists(t *testing.T) {
	disk := carriedDisk(t, manyEntries(9), 60, 4)
	old := oldLog(manyEntries(20))
	first, _ := ferry.Format(60)
	second, _ := ferry.Format(60)
	wantApart(t, "Format", first[:cap(first)], second[:cap(second)], api.Sector{1, 2, 3})
	wantOneOf(t, formatted(t, 60), carriedOf(nil))
	entries, _ := ferry.Entries(disk)
	others, _ := ferry.Entries(disk)
	wantApart(t, "Entries", entries[:cap(entries)], others[:cap(others)], "-")
	wantOneOf(t, disk, carriedOf(manyEntries(9)))
	plan, _, _ := ferry.Step(old, disk, 5)
	next, _, _ := ferry.Step(old, disk, 5)
	wantApart(t, "Step", plan[:cap(plan)], next[:cap(next)], api.Write{At: 1})
	again, after := wantStep(t, old, disk, 5)
	wantOneOf(t, done(disk, again), after)
}

func TestP2ProofCallsHangOnArgumentsAlone(t *testing.T) {
	r := rand.New(rand.NewSource(37))
	for range 50 {
		entries := manyEntries(1 + r.Intn(40))
		old, i := oldLog(entries), r.Intn(len(entries))
		p := proofOf(entries, i)
		other, forgery := forged(t, r, entries, p.Before, i, i+r.Intn(len(entries)-i), 5)
		// Calls that stand between two calls with the same argument, some with errors, leave no trace.
		for range 2 {
			wantProof(t, entries, i, p, api.OK)
			wantHeld(t, headOf(entries), len(entries), i, entries[i], p, true)
			wantTranslated(t, old, i, entries[i], p)
			ferry.OldProve(randomLog(r), r.Intn(50))
			ferry.OldProve(three, 3)
			ferry.OldVerify(7, 3, 1, "x", proofOf(three, 1))
			ferry.Translate(old, len(entries), "", p)
			ferry.Translate(old+"x", i, entries[i], p)
			ferry.Translate(oldLog(three), 1, "bc", proofOf(three, 1))
			wantTranslated(t, old, i, other, forgery)
		}
	}
}

func TestP2OldProveLeavesItsListAlone(t *testing.T) {
	long := strings.Repeat("x", api.MaxEntry+1)
	for _, entries := range [][]string{{}, {"a"}, three, {"a", long}, manyEntries(100), times(101, "c")} {
		// The list is the beginning of a longer one, so that what stands behind it can be looked at.
		room := append(slices.Clone(entries), "behind", "it")
		before := slices.Clone(room)
		for i := -1; i <= len(entries); i++ {
			p, _ := ferry.OldProve(room[:len(entries)], i)
			kept := slices.Clone(p.Rest)
			for k := range room {
				if room[k] != before[k] {
					t.Fatalf("OldProve made %.60q of %.60q", room, before)
				}
				room[k] = "-"
			}
			if !slices.Equal(p.Rest, kept) {
				t.Errorf("the proof of entry %d of %d changes with the list", i, len(entries))
			}
			copy(room, before)
		}
	}
}

func TestP2OldProveAnswersNewLists(t *testing.T) {
	for _, n := range []int{1, 2, 3, 5, 64, 99, 100} {
		entries := manyEntries(n)
		for i := range entries {
			room := append(slices.Clone(entries), "behind", "it")
			before := slices.Clone(room)
			first, _ := ferry.OldProve(room[:n], i)
			second, _ := ferry.OldProve(room[:n], i)
			wantApart(t, "OldProve", first.Rest[:cap(first.Rest)], second.Rest[:cap(second.Rest)], "-")
			if !slices.Equal(room, before) {
				t.Fatalf("the proof of entry %d of %d is a part of the list", i, n)
			}
			wantProof(t, entries, i, proofOf(entries, i), api.OK)
		}
	}
}

func TestP2OldVerifyAndTranslateLeaveTheirProofAlone(t *testing.T) {
	r := rand.New(rand.NewSource(38))
	for _, n := range []int{1, 2, 3, 9, 100} {
		entries := manyEntries(n)
		for _, i := range []int{0, n / 2, n - 1} {
			own := proofOf(entries, i)
			other, forgery := forged(t, r, entries, own.Before, i, i+(n-1-i)/2, 4)
			wantProofAlone(t, entries, i, entries[i], own)
			wantProofAlone(t, entries, i, other, forgery)
			wantProofAlone(t, entries, i, other+"!", own)
		}
	}
}

// wantProofAlone: no call writes into the texts of a proof, nor behind them, and no answer changes with them.
func wantProofAlone(t *testing.T, entries []string, i int, entry string, p api.OldProof) {
	t.Helper()
	room := append(slices.Clone(p.Rest), "behind", "it")
	before := slices.Clone(room)
	old, want := oldLog(entries), api.OldProof{Before: p.Before, Rest: room[:len(p.Rest)]}
	held := ferry.OldVerify(headOf(entries), len(entries), i, entry, want)
	c, e := ferry.Translate(old, i, entry, want)
	if !slices.Equal(room, before) {
		t.Fatalf("OldVerify or Translate made %.60q of %.60q", room, before)
	}
	for k := range room {
		room[k] = "-"
	}
	wantCarried(t, old, i, entry, p, c, e)
	wantTranslated(t, old, i, entry, p)
	wantHeld(t, headOf(entries), len(entries), i, entry, p, held)
}

func TestP2TranslateAnswersNewLists(t *testing.T) {
	for _, n := range []int{2, 3, 5, 8, 64, 65, 100} {
		entries := manyEntries(n)
		old, all := oldLog(entries), levels(entries)
		for i, entry := range entries {
			p := proofOf(entries, i)
			first, _ := ferry.Translate(old, i, entry, p)
			second, _ := ferry.Translate(old, i, entry, p)
			wantApart(t, "Translate", first.Proof[:cap(first.Proof)], second.Proof[:cap(second.Proof)], api.Digest{1})
			wantCarried(t, old, i, entry, p, api.Carried{Proof: pathOf(all, i)}, api.OK)
		}
	}
}

// wantApart: what is written into one answer, its spare room too, is not seen in the other.
func wantApart[T comparable](t *testing.T, call string, first, second []T, other T) {
	t.Helper()
	before := slices.Clone(second)
	for i := range first {
		first[i] = other
	}
	if !slices.Equal(second, before) {
		t.Errorf("two lists of %s share memory", call)
	}
}
