// Package carry: what stands on a disk, and the plans that carry entries over to it.
//
// The first sector of a disk is its head: a byte that tells how many entries were carried over, and a mark.
// The other sectors, taken as one text, are its body: the entries, each behind a byte that tells its length.
// What stands in the body behind the last entry that the head counts is nothing.
//
// Two heads differ in their first byte alone: a torn write of one leaves the old head or the new one, never
// a third. And a plan's writes to the body leave each byte of the entries that the old head counts as it is,
// and are flushed before the new head is written. So no crash needs to be found out, or mended.
package carry

import (
	"ferry/api"
	"ferry/tree"
)

// mark keeps sectors that no Format made, all of them 0 perhaps, from being taken for a disk.
const mark = "ferry"

// Format makes a disk of so many sectors.
func Format(sectors int) ([]api.Sector, api.Errno) {
	if sectors < api.MinSectors || sectors > api.MaxSectors {
		return nil, api.ErrDisk
	}
	disk := make([]api.Sector, sectors)
	disk[0] = head(0)
	return disk, api.OK
}

// Status tells how many entries were carried over to a disk, and their root.
func Status(disk []api.Sector) (int, api.Digest, api.Errno) {
	entries, fault := Entries(disk)
	if fault != api.OK {
		return 0, api.Digest{}, fault
	}
	root, fault := tree.Root(entries)
	return len(entries), root, fault
}

// Entries tells the entries that were carried over to a disk.
func Entries(disk []api.Sector) ([]string, api.Errno) {
	if len(disk) < api.MinSectors || len(disk) > api.MaxSectors {
		return nil, api.ErrDisk
	}
	count := int(disk[0][0])
	if count > api.MaxEntries || disk[0] != head(count) {
		return nil, api.ErrDisk
	}
	text := body(disk)
	return readBody(text, count)
}

// head tells the first sector of a disk to which so many entries were carried over.
func head(count int) api.Sector {
	var sector api.Sector
	sector[0] = byte(count)
	copy(sector[1:], mark)
	return sector
}

// body tells the text that all sectors of a disk but its head make up.
func body(disk []api.Sector) string {
	var text []byte
	for at := 1; at < len(disk); at++ {
		sector := disk[at]
		text = append(text, sector[:]...)
	}
	return string(text)
}

// readBody reads so many entries from the beginning of a body.
func readBody(text string, count int) ([]string, api.Errno) {
	var entries []string
	for len(entries) < count {
		if len(text) == 0 {
			return nil, api.ErrDisk
		}
		size := int(text[0])
		if size > api.MaxEntry || size >= len(text) {
			return nil, api.ErrDisk
		}
		entries = append(entries, text[1:1+size])
		text = text[1+size:]
	}
	return entries, api.OK
}

// writeBody writes entries, each of at most MaxEntry bytes, as they stand in a body.
func writeBody(entries []string) string {
	var text []byte
	for _, entry := range entries {
		text = append(text, byte(len(entry)))
		text = append(text, entry...)
	}
	return string(text)
}
