package ferry_test

import (
	"math/rand"
	"slices"
	"strings"
	"testing"

	"ferry/api"
	"ferry/ferry"
)

// done: the disk on which a plan was done in full.
func done(disk []api.Sector, plan []api.Write) []api.Sector {
	after := slices.Clone(disk)
	for _, item := range plan {
		if !item.Flush {
			after[item.At] = item.Data
		}
	}
	return after
}

// begunWrites: of the items that were begun the writes that have no flush behind them among these.
func begunWrites(plan []api.Write, begun int) []int {
	var writes []int
	for i, item := range plan[:begun] {
		writes = append(writes, i)
		if item.Flush {
			writes = nil
		}
	}
	return writes
}

// crashed: the disk on which a plan crashed; of write i that no flush made sure torn[i] bytes were done.
func crashed(disk []api.Sector, plan []api.Write, begun int, torn []int) []api.Sector {
	loose := begunWrites(plan, begun)
	sure := begun - len(loose)
	after := done(disk, plan[:sure])
	for _, i := range loose {
		copy(after[plan[i].At][:torn[i]], plan[i].Data[:torn[i]])
	}
	return after
}

// everyCrash: the plan crashes behind each of its items, and each write that is not sure is torn at each number of bytes:
// with all the others, beside others that are lost or whole, and with others that are torn at random.
func everyCrash(r *rand.Rand, disk []api.Sector, plan []api.Write, see func([]api.Sector)) {
	torn := make([]int, len(plan))
	for begun := range len(plan) + 1 {
		loose := begunWrites(plan, begun)
		if len(loose) == 0 {
			see(crashed(disk, plan, begun, torn))
			continue
		}
		last := loose[len(loose)-1]
		for n := range api.Size + 1 {
			for _, others := range []int{0, n, api.Size} {
				for i := range torn {
					torn[i] = others
				}
				torn[last] = n
				see(crashed(disk, plan, begun, torn))
			}
			for i := range torn {
				torn[i] = r.Intn(api.Size + 1)
			}
			torn[loose[r.Intn(len(loose))]] = n
			see(crashed(disk, plan, begun, torn))
		}
	}
}

// carried: entries that may stand on a disk, and their root, made without the program.
type carried struct {
	entries []string
	root    api.Digest
}

func carriedOf(entries []string) carried { return carried{entries, rootOf(entries)} }

// wantOneOf: on the disk stands one of these.
func wantOneOf(t *testing.T, disk []api.Sector, may ...carried) {
	t.Helper()
	count, root, e := ferry.Status(disk)
	entries, f := ferry.Entries(disk)
	if e != api.OK || f != api.OK || count != len(entries) {
		t.Fatalf("Status tells %d entries, %d; Entries tells %d, %d", count, e, len(entries), f)
	}
	var counts []int
	for _, c := range may {
		if slices.Equal(entries, c.entries) && root == c.root {
			return
		}
		counts = append(counts, len(c.entries))
	}
	t.Fatalf("on the disk stand %d entries (%.200q) with the root %x, want the first of %v", count, entries, root, counts)
}

// consistent: what Status and Entries must have in common on every list of sectors. Out come the entries, and whether it is a disk.
func consistent(t *testing.T, disk []api.Sector) ([]string, bool) {
	t.Helper()
	count, root, e := ferry.Status(disk)
	entries, f := ferry.Entries(disk)
	if e == api.ErrDisk && f == api.ErrDisk {
		if count != 0 || root != (api.Digest{}) || len(entries) != 0 {
			t.Fatalf("beside ErrDisk Status tells %d entries and the root %x, Entries %d", count, root, len(entries))
		}
		return nil, false
	}
	if e != api.OK || f != api.OK || len(disk) < 2 || len(disk) > 300 {
		t.Fatalf("of %d sectors Status answers %d, Entries %d", len(disk), e, f)
	}
	if count != len(entries) || root != rootOf(entries) {
		t.Fatalf("Status tells %d entries and the root %x, Entries %d with the root %x", count, root, len(entries), rootOf(entries))
	}
	for _, entry := range entries {
		if count > 100 || len(entry) > 20 {
			t.Fatalf("on the disk stands what is no log: %d entries, %q", count, entry)
		}
	}
	return entries, true
}

// mayBeFull: whether a disk is one on which ErrFull may come for entries that would then have been carried over.
func mayBeFull(disk []api.Sector, entries []string) bool {
	size := len(entries)
	for _, entry := range entries {
		size += len(entry)
	}
	return 8*len(disk) < 4*8+size
}

// reading: an answer of told.
type reading struct {
	entries []string
	fault   api.Errno
	number  int
}

var readings = map[string]reading{}

// toldOnce: as told, which is too slow to be asked for the same text at each step.
func toldOnce(old string) ([]string, api.Errno, int) {
	r, is := readings[old]
	if !is {
		r.entries, r.fault, r.number = told(old)
		readings[old] = r
	}
	return r.entries, r.fault, r.number
}

// stepTold: what the document asks of Step, but for ErrFull: the entries that are then carried over, or the error.
func stepTold(t *testing.T, old string, disk []api.Sector, batch int) ([]string, api.Errno, int) {
	t.Helper()
	before, ok := consistent(t, disk)
	if !ok {
		return nil, api.ErrDisk, 0
	}
	if batch < 1 || batch > 100 {
		return nil, api.ErrBatch, 0
	}
	k := len(before)
	entries, fault, number := toldOnce(old)
	switch {
	case fault == api.ErrLong, fault != api.OK && number < k+batch:
		return nil, fault, number
	case len(entries) <= k:
		return nil, api.ErrDone, 0
	}
	return slices.Concat(before, entries[k:min(k+batch, len(entries))]), api.OK, 0
}

// wantStep: Step answers what the document asks. Out comes the plan (nothing with an error), and what is then carried over.
func wantStep(t *testing.T, old string, disk []api.Sector, batch int) ([]api.Write, carried) {
	t.Helper()
	after, fault, number := stepTold(t, old, disk, batch)
	plan, e, n := ferry.Step(old, disk, batch)
	full := e == api.ErrFull && fault == api.OK && mayBeFull(disk, after)
	if (e != fault && !full) || n != number || (len(plan) > 0) != (e == api.OK) {
		t.Fatalf("Step of %.40q, %d sectors and a batch of %d = %d items, %d, %d, want %d, %d", old, len(disk), batch, len(plan), e, n, fault, number)
	}
	if len(plan) > 1000 {
		t.Fatalf("the plan has %d items", len(plan))
	}
	for i, item := range plan {
		if !item.Flush && (item.At < 0 || item.At >= len(disk)) {
			t.Fatalf("item %d of the plan writes to sector %d of %d", i, item.At, len(disk))
		}
	}
	if len(plan) == 0 {
		return nil, carried{}
	}
	return plan, carriedOf(after)
}

// wantFault: Step answers this error, and nothing beside it but the frame's number.
func wantFault(t *testing.T, old string, disk []api.Sector, batch int, fault api.Errno, number int) {
	t.Helper()
	wantStep(t, old, disk, batch)
	plan, e, n := ferry.Step(old, disk, batch)
	if len(plan) != 0 || e != fault || n != number {
		t.Errorf("Step of %.40q, %d sectors and a batch of %d = %d items, %d, %d, want %d, %d", old, len(disk), batch, len(plan), e, n, fault, number)
	}
}

// formatted: a new disk.
func formatted(t *testing.T, sectors int) []api.Sector {
	t.Helper()
	disk, e := ferry.Format(sectors)
	if len(disk) != sectors || e != api.OK {
		t.Fatalf("Format(%d) = %d sectors, %d", sectors, len(disk), e)
	}
	return disk
}

// enough: the fewest sectors with which ErrFull may not come for these entries.
func enough(entries []string) int {
	n := 2
	for mayBeFull(make([]api.Sector, n), entries) {
		n++
	}
	return n
}

// carriedDisk: a disk to which these entries were carried over, one plan behind the other, each done in full.
func carriedDisk(t *testing.T, entries []string, sectors int, batch int) []api.Sector {
	t.Helper()
	disk := formatted(t, sectors)
	for count := 0; count < len(entries); count = min(count+batch, len(entries)) {
		plan, after := wantStep(t, oldLog(entries), disk, batch)
		if plan == nil {
			t.Fatalf("%d entries cannot be carried over to %d sectors", len(entries), sectors)
		}
		disk = done(disk, plan)
		wantOneOf(t, disk, after)
	}
	wantOneOf(t, disk, carriedOf(entries))
	return disk
}

// diskLogs: a log with no entry, with one, with a hundred; with entries of 0, of 20 and of all numbers of bytes.
func diskLogs() [][]string {
	r := rand.New(rand.NewSource(12))
	longest := "abcdefghijklmnopqrst"
	return [][]string{
		nil, {""}, {longest}, three, {longest, "", longest}, times(7, longest), manyEntries(33),
		times(100, ""), times(100, longest), manyEntries(100), times(40, "\x00"), times(50, "\xff\xff\xff"),
		{randomText(r, 20), randomText(r, 9), "", randomText(r, 20), randomText(r, 3), "", ""},
	}
}

func TestP8Format(t *testing.T) {
	for _, n := range []int{2, 3, 9, 100, 299, 300} {
		wantOneOf(t, formatted(t, n), carriedOf(nil))
	}
}

func TestP8WrongNumberOfSectors(t *testing.T) {
	for _, n := range append([]int{-300, 301, 302, 1000}, oddNumbers...) {
		if n >= 2 && n <= 300 {
			wantOneOf(t, formatted(t, n), carriedOf(nil))
			continue
		}
		if disk, e := ferry.Format(n); len(disk) != 0 || e != api.ErrDisk {
			t.Errorf("Format(%d) = %d sectors, %d, want ErrDisk", n, len(disk), e)
		}
	}
}

func TestP9Examples(t *testing.T) {
	disk := formatted(t, 9)
	count, root, e := ferry.Status(disk)
	if want := ferry.NewSum(""); count != 0 || root != want || e != api.OK {
		t.Errorf("Status of a new disk = %d, %x, %d", count, root, e)
	}
	if entries, e := ferry.Entries(disk); len(entries) != 0 || e != api.OK {
		t.Errorf("Entries of a new disk = %q, %d", entries, e)
	}
}

func TestP9TellsWhatWasCarriedOver(t *testing.T) {
	for _, entries := range diskLogs() {
		for _, batch := range []int{1, 2, 3, 7, 99, 100} {
			for _, sectors := range []int{enough(entries), 300} {
				carriedDisk(t, entries, sectors, batch)
			}
		}
	}
}

func TestP9WrongNumberOfSectors(t *testing.T) {
	good, empty := carriedDisk(t, three, 300, 2), formatted(t, 300)
	for _, disk := range [][]api.Sector{nil, {}, good[:0], good[:1], empty[:0], empty[:1], append(slices.Clone(empty), api.Sector{}), make([]api.Sector, 1), make([]api.Sector, 301), append(slices.Clone(good), api.Sector{}), slices.Concat(good, good, good)} {
		if _, ok := consistent(t, disk); ok {
			t.Errorf("%d sectors are a disk", len(disk))
		}
		for _, batch := range []int{1, 0, 101} {
			wantFault(t, oldLog(three), disk, batch, api.ErrDisk, 0)
			wantFault(t, strings.Repeat("x", 2301), disk, batch, api.ErrDisk, 0)
		}
	}
}

// otherDisks: lists of sectors that no plan made: random ones, and disks with bytes changed, sectors swapped, cut off and put on.
func otherDisks(t *testing.T, r *rand.Rand) [][]api.Sector {
	disks := [][]api.Sector{make([]api.Sector, 2), make([]api.Sector, 300)}
	for range 100 {
		disks = append(disks, randomSectors(r, 2+r.Intn(40)))
	}
	for _, entries := range diskLogs() {
		disk := carriedDisk(t, entries, enough(entries), 100)
		for range 200 {
			disks = append(disks, changed(r, disk))
		}
	}
	small := carriedDisk(t, three, 5, 1)
	for at := range small {
		for k := range api.Size {
			for _, b := range []byte{0, 1, 20, 21, 100, 101, 255} {
				disk := slices.Clone(small)
				disk[at][k] = b
				disks = append(disks, disk)
			}
		}
	}
	return disks
}

func randomSectors(r *rand.Rand, n int) []api.Sector {
	disk := make([]api.Sector, n)
	for at := range disk {
		r.Read(disk[at][:])
	}
	return disk
}

func changed(r *rand.Rand, disk []api.Sector) []api.Sector {
	other := slices.Clone(disk)
	at, from := r.Intn(len(other)), r.Intn(len(other))
	switch r.Intn(6) {
	case 0:
		other[0][r.Intn(api.Size)] = byte(r.Intn(256))
	case 1:
		other[0][0] = byte(r.Intn(102))
	case 2:
		other[at][r.Intn(api.Size)] ^= 1 << r.Intn(8)
	case 3:
		copy(other[1+r.Intn(len(other)-1):], randomSectors(r, 1+r.Intn(3)))
	case 4:
		other[at], other[from] = other[from], other[at]
	case 5:
		other = append(other[:2+r.Intn(len(other)-1)], randomSectors(r, r.Intn(3))...)
	}
	return other
}

// noisy: a disk with other bytes in each sector of which nothing hangs on.
func noisy(t *testing.T, r *rand.Rand, disk []api.Sector) []api.Sector {
	t.Helper()
	noise := slices.Clone(disk)
	want, _ := ferry.Entries(disk)
	for at := range noise {
		r.Read(noise[at][:])
		if entries, ok := consistent(t, noise); !ok || !slices.Equal(entries, want) {
			noise[at] = disk[at]
		}
	}
	return noise
}

func TestP9OtherListsOfSectors(t *testing.T) {
	r := rand.New(rand.NewSource(13))
	for _, disk := range otherDisks(t, r) {
		consistent(t, disk)
	}
}
