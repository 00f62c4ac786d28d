package carry

import (
	"slices"
	"strings"
	"testing"

	"ferry/api"
	"ferry/chain"
)

// wantEntries: Status and Entries both tell so many entries, or both ErrDisk.
func wantEntries(t *testing.T, disk []api.Sector, want []string, fault api.Errno) {
	t.Helper()
	entries, e := Entries(disk)
	count, _, f := Status(disk)
	if !slices.Equal(entries, want) || count != len(want) || e != fault || f != fault {
		t.Errorf("Entries = %q, %d, Status = %d, %d, want %q, %d", entries, e, count, f, want, fault)
	}
}

// laid: a disk with this head and this beginning of its body.
func laid(sectors int, first api.Sector, text string) []api.Sector {
	disk := make([]api.Sector, sectors)
	disk[0] = first
	for k := range len(text) {
		disk[1+k/api.Size][k%api.Size] = text[k]
	}
	return disk
}

func TestP9HeadsDifferInTheirFirstByteAlone(t *testing.T) {
	for count := range api.MaxEntries + 1 {
		first, other := head(0), head(count)
		if int(other[0]) != count || string(first[1:]) != string(other[1:]) {
			t.Errorf("the heads of 0 and of %d entries are %q and %q", count, first, other)
		}
	}
}

func TestP9HeadThatIsNone(t *testing.T) {
	for count := range 256 {
		want, fault := make([]string, count), api.OK
		if count > 100 {
			want, fault = nil, api.ErrDisk
		}
		wantEntries(t, laid(300, head(count), ""), want, fault)
	}
	for k := 1; k < api.Size; k++ {
		first := head(0)
		first[k] ^= 1
		wantEntries(t, laid(9, first, ""), nil, api.ErrDisk)
	}
	wantEntries(t, make([]api.Sector, 9), nil, api.ErrDisk)
}

func TestP9BodyThatIsNone(t *testing.T) {
	longest := strings.Repeat("x", api.MaxEntry)
	wantEntries(t, laid(2, head(1), "\x14"+longest), []string{longest}, api.OK)
	for size := api.MaxEntry + 1; size < 256; size++ {
		wantEntries(t, laid(300, head(1), string([]byte{byte(size)})), nil, api.ErrDisk)
		wantEntries(t, laid(300, head(2), "\x00"+string([]byte{byte(size)})), nil, api.ErrDisk)
		wantEntries(t, laid(300, head(1), "\x00"+string([]byte{byte(size)})), []string{""}, api.OK)
	}
	// An entry that ends with the body, one that goes on behind it by a byte, and one that begins behind it.
	wantEntries(t, laid(2, head(2), "\x14"+longest+"\x0a0123456789"), []string{longest, "0123456789"}, api.OK)
	wantEntries(t, laid(2, head(2), "\x14"+longest+"\x0b0123456789"), nil, api.ErrDisk)
	wantEntries(t, laid(2, head(3), "\x14"+longest+"\x0a0123456789"), nil, api.ErrDisk)
	wantEntries(t, laid(2, head(32), ""), make([]string, 32), api.OK)
	wantEntries(t, laid(2, head(33), ""), nil, api.ErrDisk)
}

// A body is filled to its last byte, and ErrFull comes with the byte behind it.
func TestP10LastByteOfTheBody(t *testing.T) {
	longest := strings.Repeat("x", api.MaxEntry)
	for _, c := range []struct {
		sectors int
		entries []string
		fault   api.Errno
	}{
		{2, []string{longest, "0123456789"}, api.OK}, {2, []string{longest, "0123456789a"}, api.ErrFull}, {2, []string{longest, "0123456789", ""}, api.ErrFull},
		{2, make([]string, 32), api.OK}, {2, make([]string, 33), api.ErrFull},
		{3, []string{longest, longest, longest, ""}, api.OK}, {3, []string{longest, longest, longest, "a"}, api.ErrFull},
	} {
		old, _ := chain.Write(c.entries)
		disk, _ := Format(c.sectors)
		plan, fault, _ := Step(old, disk, api.MaxEntries)
		if fault != c.fault {
			t.Errorf("Step of %d entries on %d sectors answers %d, want %d", len(c.entries), c.sectors, fault, c.fault)
		}
		for _, item := range plan {
			if !item.Flush {
				disk[item.At] = item.Data
			}
		}
		if fault == api.OK {
			wantEntries(t, disk, c.entries, api.OK)
		}
	}
}
