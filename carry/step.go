package carry

import (
	"ferry/api"
	"ferry/chain"
)

// Step plans how the next entries of an old log, a batch of them, are carried over to a disk; with an error
// that a bad frame of the old log is the reason of, it tells that frame's number.
func Step(old string, disk []api.Sector, batch int) ([]api.Write, api.Errno, int) {
	carried, fault := Entries(disk)
	if fault != api.OK {
		return nil, fault, 0
	}
	if batch < 1 || batch > api.MaxEntries {
		return nil, api.ErrBatch, 0
	}
	entries, fault, number := chain.Read(old)
	first := len(carried)
	end := first + batch
	if fault == api.ErrLong || (fault != api.OK && number < end) {
		return nil, fault, number
	}
	if len(entries) <= first {
		return nil, api.ErrDone, 0
	}
	if end > len(entries) {
		end = len(entries)
	}
	ahead := writeBody(carried)
	more := writeBody(entries[first:end])
	if len(ahead)+len(more) > (len(disk)-1)*api.Size {
		return nil, api.ErrFull, 0
	}
	return plan(disk, ahead, more, end), api.OK, 0
}

// plan lays a text for which there is room behind the text that a disk's head counts, and then makes the
// head count so many entries.
func plan(disk []api.Sector, ahead string, more string, count int) []api.Write {
	text := ahead + more
	var items []api.Write
	// The first sector may hold the end of what is counted already: its bytes are written as they are, so
	// that a torn write leaves them.
	for at := 1 + len(ahead)/api.Size; at < len(disk) && (at-1)*api.Size < len(text); at++ {
		data := disk[at]
		copy(data[:], text[(at-1)*api.Size:])
		items = append(items, api.Write{At: at, Data: data})
	}
	// A head that came to the disk ahead of what it counts would count what is not there.
	items = append(items, api.Write{Flush: true})
	items = append(items, api.Write{At: 0, Data: head(count)})
	// Behind the last flush the batch stays, whatever comes.
	items = append(items, api.Write{Flush: true})
	return items
}
