package ferry_test

import (
	"math/rand"
	"strings"
	"testing"

	"ferry/api"
	"ferry/ferry"
)

func TestP10Example(t *testing.T) {
	disk := formatted(t, 9)
	plan, after := wantStep(t, oldLog(three), disk, 2)
	if plan == nil || len(after.entries) != 2 {
		t.Fatalf("Step makes a plan of %d items for %d entries", len(plan), len(after.entries))
	}
	wantOneOf(t, done(disk, plan), carriedOf(three[:2]))
}

func TestP10Batches(t *testing.T) {
	entries := manyEntries(100)
	old := oldLog(entries)
	for _, count := range []int{0, 1, 50, 99, 100} {
		disk := carriedDisk(t, entries[:count], 300, 100)
		for _, batch := range append([]int{50, 51, 102, 255, 256}, oddNumbers...) {
			if batch < 1 || batch > 100 {
				wantFault(t, old, disk, batch, api.ErrBatch, 0)
				continue
			}
			plan, after := wantStep(t, old, disk, batch)
			if (plan == nil) != (count == 100) {
				t.Fatalf("Step behind %d of 100 entries makes a plan of %d items", count, len(plan))
			}
			if plan != nil {
				wantOneOf(t, done(disk, plan), after)
			}
		}
	}
}

func TestP10BatchGoesAheadOfTheOldLog(t *testing.T) {
	for _, batch := range []int{0, -1, 101} {
		for _, old := range []string{"", "x", oldLog(three) + "x", strings.Repeat("x", 2301)} {
			wantFault(t, old, formatted(t, 2), batch, api.ErrBatch, 0)
			wantFault(t, old, carriedDisk(t, three, 9, 3), batch, api.ErrBatch, 0)
		}
	}
}

// badLogs: old logs whose frame with this number is bad, in each of the ways that there are.
func badLogs(entries []string, number int) []string {
	list := frames(entries)
	ahead, frame := strings.Join(list[:number], ""), list[number]
	behind := strings.Join(list[number+1:], "")
	return []string{ahead + frame[:1], ahead + frame[:len(frame)-1], ahead + "\x15" + behind, ahead + flipped(frame, len(frame)-1, 3) + behind}
}

// A bad frame ahead of the batch, in it, and just and far behind it.
func TestP10BadFrames(t *testing.T) {
	entries := manyEntries(9)
	for count := range len(entries) + 1 {
		disk := carriedDisk(t, entries[:count], 60, 4)
		for number := range entries {
			for k, old := range badLogs(entries, number) {
				for _, batch := range []int{1, 2, 5, 9, 100} {
					if number < count+batch {
						wantFault(t, old, disk, batch, []api.Errno{api.ErrFrame, api.ErrFrame, api.ErrFrame, api.ErrLink}[k], number)
						continue
					}
					plan, after := wantStep(t, old, disk, batch)
					if plan == nil {
						t.Fatalf("a bad frame %d keeps %d entries behind %d from being carried over", number, batch, count)
					}
					wantOneOf(t, done(disk, plan), after)
				}
			}
		}
	}
}

func TestP10FrameWithTheNumberMaxEntries(t *testing.T) {
	entries := manyEntries(100)
	for _, count := range []int{1, 50, 99} {
		disk := carriedDisk(t, entries[:count], 300, 100)
		for _, more := range []string{"\x00", "\x00\x00\x00", "x"} {
			old := oldLog(entries) + more
			if plan, _ := wantStep(t, old, disk, 100-count); plan == nil {
				t.Errorf("a frame behind the hundredth keeps %d entries behind %d from being carried over", 100-count, count)
			}
			wantFault(t, old, disk, 101-count, api.ErrFrame, 100)
			wantFault(t, old, carriedDisk(t, entries, 300, 100), 1, api.ErrFrame, 100)
		}
	}
}

func TestP10LongText(t *testing.T) {
	entries := times(100, "abcdefghijklmnopqrst")
	old := oldLog(entries)
	for _, count := range []int{0, 1, 100} {
		disk := carriedDisk(t, entries[:count], 300, 100)
		for _, batch := range []int{1, 100} {
			wantFault(t, old+"\x00", disk, batch, api.ErrLong, 0)
			wantFault(t, strings.Repeat("x", 2301), disk, batch, api.ErrLong, 0)
			wantFault(t, strings.Repeat("\x00", 1<<20), disk, batch, api.ErrLong, 0)
			wantStep(t, old, disk, batch)
		}
	}
	wantFault(t, strings.Repeat("x", 2300), formatted(t, 9), 1, api.ErrFrame, 0)
}

func TestP10Done(t *testing.T) {
	for _, entries := range diskLogs() {
		disk := carriedDisk(t, entries, enough(entries), 100)
		for _, batch := range []int{1, 2, 100} {
			wantFault(t, oldLog(entries), disk, batch, api.ErrDone, 0)
			wantFault(t, oldLog(entries[:len(entries)/2]), disk, batch, api.ErrDone, 0)
			wantFault(t, "", disk, batch, api.ErrDone, 0)
		}
	}
}

// A disk that is full goes on to tell what is wrong with the old log, and that nothing is left.
func TestP10FullComesLast(t *testing.T) {
	longest := strings.Repeat("x", 20)
	entries := times(20, longest)
	disk := formatted(t, 2)
	wantFault(t, oldLog(entries), disk, 20, api.ErrFull, 0)
	wantFault(t, oldLog(entries), disk, 101, api.ErrBatch, 0)
	wantFault(t, oldLog(entries)+"x", disk, 20, api.ErrFull, 0)
	wantFault(t, oldLog(entries)+"x", disk, 21, api.ErrFrame, 20)
	wantFault(t, flipped(oldLog(entries), 22, 0), disk, 20, api.ErrLink, 0)
	wantFault(t, oldLog(entries)+strings.Repeat("x", 2301), disk, 20, api.ErrLong, 0)
	wantFault(t, "", disk, 20, api.ErrDone, 0)
}

// Of each log as many entries are carried over to as few sectors as ErrFull leaves no more, and to fewer.
func TestP10Room(t *testing.T) {
	for _, entries := range diskLogs() {
		for _, batch := range []int{1, 3, 100} {
			for count := 0; count < len(entries); count += batch {
				end := min(count+batch, len(entries))
				least := enough(entries[:end])
				disk := carriedDisk(t, entries[:count], least, 100)
				plan, after := wantStep(t, oldLog(entries), disk, batch)
				if plan == nil || len(after.entries) != end {
					t.Fatalf("to %d sectors %d entries are not carried over", least, end)
				}
				wantOneOf(t, done(disk, plan), after)
			}
		}
		for sectors := 2; sectors < enough(entries); sectors += 1 + sectors/8 {
			carryUntilFull(t, entries, sectors)
		}
	}
}

// carryUntilFull: to few sectors entries are carried over one by one until there is no room: what stands there stays.
func carryUntilFull(t *testing.T, entries []string, sectors int) {
	t.Helper()
	disk := formatted(t, sectors)
	for count := range entries {
		plan, after := wantStep(t, oldLog(entries), disk, 1)
		if plan == nil {
			wantFault(t, oldLog(entries), disk, 1, api.ErrFull, 0)
			return
		}
		wantOneOf(t, done(disk, plan), carriedOf(entries[:count+1]))
		disk = done(disk, plan)
		wantOneOf(t, disk, after)
	}
}

// No disk of so few bytes can tell one log of random entries from another: a plan would have to lose some.
func TestP10NoRoom(t *testing.T) {
	r := rand.New(rand.NewSource(14))
	for sectors := 2; sectors <= 40; sectors++ {
		entries := make([]string, 100)
		for i := range entries {
			entries[i] = randomText(r, 20)
		}
		wantFault(t, oldLog(entries), formatted(t, sectors), 100, api.ErrFull, 0)
	}
}

// wantEitherOr: done in full, a plan carries the batch over; behind each crash either the batch stands, too, or nothing more than before.
func wantEitherOr(t *testing.T, r *rand.Rand, disk []api.Sector, plan []api.Write, before, after carried) {
	t.Helper()
	wantOneOf(t, disk, before)
	wantOneOf(t, done(disk, plan), after)
	everyCrash(r, disk, plan, func(torn []api.Sector) {
		t.Helper()
		wantOneOf(t, torn, before, after)
	})
}

func TestP10EveryCrash(t *testing.T) {
	r := rand.New(rand.NewSource(15))
	for _, entries := range diskLogs() {
		for _, batch := range []int{1, 7, 100} {
			disk := formatted(t, enough(entries))
			before := carriedOf(nil)
			for len(before.entries) < min(len(entries), 4*batch) {
				plan, after := wantStep(t, oldLog(entries), disk, batch)
				wantEitherOr(t, r, disk, plan, before, after)
				disk = done(disk, plan)
				before = after
			}
		}
	}
}

// smallDisk: what a disk of a small log may be, to be looked up.
type smallDisk [12]api.Sector

// mostDisks: so many disks of a small log can be tried in a few seconds.
const mostDisks = 50000

// Every disk that a small log's plans can lead to, by any batches and any crashes, one behind the other: of each of them every plan is
// done in full and crashes in every way.
func TestP10EveryDiskOfASmallLog(t *testing.T) {
	entries := []string{"abcdefghijklmnopqrst", "", "uvwxyzABCDEFGHIJKLMN", "OPQRSTUVWXYZ0123"}
	old := oldLog(entries)
	var states []carried
	for n := range len(entries) + 1 {
		states = append(states, carriedOf(entries[:n]))
	}
	first := smallDisk(formatted(t, len(smallDisk{})))
	counts := map[smallDisk]int{first: 0}
	left := []smallDisk{first}
	// reach: a plan led to a disk on which one of two numbers of entries must stand.
	reach := func(disk smallDisk, before, after int) {
		count, seen := counts[disk]
		if !seen {
			wantOneOf(t, disk[:], states...)
			count, _, _ = ferry.Status(disk[:])
			counts[disk] = count
			left = append(left, disk)
		}
		if len(counts) > mostDisks {
			t.Fatalf("more than %d disks come about: the log is too great for all of them to be tried", mostDisks)
		}
		if count != before && count != after {
			t.Fatalf("on the disk stand %d entries, want %d or %d", count, before, after)
		}
	}
	for len(left) > 0 {
		disk := left[len(left)-1]
		left = left[:len(left)-1]
		before := counts[disk]
		for batch := 1; batch <= len(entries)-before; batch++ {
			plan, _, _ := ferry.Step(old, disk[:], batch)
			if len(plan) == 0 {
				t.Fatalf("no plan carries %d entries more over behind %d", batch, before)
			}
			reach(smallDisk(done(disk[:], plan)), before+batch, before+batch)
			for begun := range len(plan) + 1 {
				loose := begunWrites(plan, begun)
				sure := smallDisk(done(disk[:], plan[:begun-len(loose)]))
				everyTear(sure, plan, loose, func(torn smallDisk) { reach(torn, before, before+batch) })
			}
		}
	}
	t.Logf("%d disks came about", len(counts))
}

// everyTear: the writes with these numbers are torn, each at each number of bytes, whatever that of the others is.
func everyTear(disk smallDisk, plan []api.Write, loose []int, see func(smallDisk)) {
	if len(loose) == 0 {
		see(disk)
		return
	}
	item := plan[loose[0]]
	seen := map[api.Sector]bool{}
	for n := range api.Size + 1 {
		torn := disk
		copy(torn[item.At][:n], item.Data[:n])
		if !seen[torn[item.At]] {
			seen[torn[item.At]] = true
			everyTear(torn, plan, loose[1:], see)
		}
	}
}

// roughDisk: a disk to which a log was carried over whole, by plans of other batches each time, of which most crashed.
func roughDisk(t *testing.T, r *rand.Rand, entries []string) []api.Sector {
	t.Helper()
	old := oldLog(entries)
	disk := formatted(t, enough(entries)+r.Intn(3))
	before := carriedOf(nil)
	for tries := 0; len(before.entries) < len(entries); tries++ {
		plan, after := wantStep(t, old, disk, 1+r.Intn(1+r.Intn(100)))
		if r.Intn(4) == 0 || tries > 30 {
			disk = done(disk, plan)
			wantOneOf(t, disk, after)
			before = after
			continue
		}
		torn := make([]int, len(plan))
		for i := range torn {
			torn[i] = []int{0, r.Intn(33), 32}[r.Intn(3)]
		}
		disk = crashed(disk, plan, r.Intn(len(plan)+1), torn)
		wantOneOf(t, disk, before, after)
		if count, _, _ := ferry.Status(disk); count == len(after.entries) {
			before = after
		}
	}
	wantFault(t, old, disk, 1, api.ErrDone, 0)
	return disk
}

func TestP10CrashesOneBehindTheOther(t *testing.T) {
	r := rand.New(rand.NewSource(16))
	for range 400 {
		roughDisk(t, r, randomLog(r))
	}
}

// What the torn writes of a long batch leave is none of a shorter one's business, nor the other way round.
func TestP10OtherBatchBehindACrash(t *testing.T) {
	r := rand.New(rand.NewSource(17))
	entries := manyEntries(12)
	old := oldLog(entries)
	disk := carriedDisk(t, entries[:2], enough(entries), 2)
	before := carriedOf(entries[:2])
	for _, batch := range []int{1, 4, 10} {
		plan, after := wantStep(t, old, disk, batch)
		everyCrash(r, disk, plan, func(torn []api.Sector) {
			if count, _, _ := ferry.Status(torn); count == len(after.entries) {
				return
			}
			for _, other := range []int{1, 3, 100} {
				next, then := wantStep(t, old, torn, other)
				wantOneOf(t, done(torn, next), then)
				tears := make([]int, len(next))
				for i := range tears {
					tears[i] = r.Intn(33)
				}
				again := crashed(torn, next, r.Intn(len(next)+1), tears)
				wantOneOf(t, again, before, then)
			}
		})
	}
}

// The document has no error for another old log: its next entries are carried over behind those that stand on the disk.
func TestP10AnotherOldLog(t *testing.T) {
	r := rand.New(rand.NewSource(18))
	for range 60 {
		entries, others := randomLog(r), randomLog(r)
		entries = entries[:min(len(entries), 12)]
		disk := carriedDisk(t, entries, 300, 100)
		plan, after := wantStep(t, oldLog(others), disk, 1+r.Intn(20))
		if plan != nil {
			wantEitherOr(t, r, disk, plan, carriedOf(entries), after)
		}
	}
}

// Where Status tells entries on sectors that no plan made, a plan does what it does on a disk of an old log.
func TestP10OtherListsOfSectors(t *testing.T) {
	r := rand.New(rand.NewSource(19))
	old := oldLog(manyEntries(100))
	for _, disk := range otherDisks(t, r) {
		before, ok := consistent(t, disk)
		for _, batch := range []int{0, 1, 5, 100, 101} {
			plan, after := wantStep(t, old, disk, batch)
			if !ok {
				wantFault(t, old, disk, batch, api.ErrDisk, 0)
			}
			if plan == nil {
				continue
			}
			wantOneOf(t, done(disk, plan), after)
			torn := make([]int, len(plan))
			for i := range torn {
				torn[i] = r.Intn(33)
			}
			wantOneOf(t, crashed(disk, plan, r.Intn(len(plan)+1), torn), carriedOf(before), after)
		}
	}
}
