package ferry_test

import (
	"math/rand"
	"slices"
	"strings"
	"testing"

	"ferry/api"
	"ferry/ferry"
)

var three = []string{"a", "bc", ""}

// two: a number in two bytes, the higher one first.
func two(n uint16) string { return string([]byte{byte(n >> 8), byte(n)}) }

// frames: the frames of a log, each a text of its own, made without the program.
func frames(entries []string) []string {
	var list []string
	link := uint16(0)
	for _, entry := range entries {
		link = weak(two(link) + entry)
		list = append(list, string([]byte{byte(len(entry))})+entry+two(link))
	}
	return list
}

// oldLog: the old log of some entries, made without the program.
func oldLog(entries []string) string { return strings.Join(frames(entries), "") }

// times: a log of n entries that are the same.
func times(n int, entry string) []string {
	return slices.Repeat([]string{entry}, n)
}

// randomLog: at most 100 entries of at most 20 bytes.
func randomLog(r *rand.Rand) []string {
	entries := make([]string, r.Intn(api.MaxEntries+1))
	for i := range entries {
		entries[i] = randomText(r, r.Intn(api.MaxEntry+1))
	}
	return entries
}

// flipped: the text with one bit of its byte at another.
func flipped(text string, at int, bit int) string {
	bytes := []byte(text)
	bytes[at] ^= 1 << bit
	return string(bytes)
}

func wantWritten(t *testing.T, entries []string, want string, fault api.Errno) {
	t.Helper()
	old, e := ferry.WriteOld(entries)
	if old != want || e != fault {
		t.Errorf("WriteOld of %d entries (%.60q) = %.60q (%d bytes), %d, want %.60q (%d bytes), %d", len(entries), entries, old, len(old), e, want, len(want), fault)
	}
}

func wantRead(t *testing.T, old string, entries []string, fault api.Errno, number int) {
	t.Helper()
	l, e, n := ferry.ReadOld(old)
	if !slices.Equal(l, entries) || e != fault || n != number {
		t.Errorf("ReadOld(%.60q), %d bytes, = %.60q (%d entries), %d, %d, want %.60q (%d entries), %d, %d", old, len(old), l, len(l), e, n, entries, len(entries), fault, number)
	}
}

func TestP4Examples(t *testing.T) {
	wantWritten(t, []string{"a"}, "\x01a\xea\x74", api.OK)
	l1 := two(weak("\xea\x74bc"))
	wantWritten(t, three, "\x01a\xea\x74\x02bc"+l1+"\x00"+two(weak(l1)), api.OK)
}

func TestP4Edges(t *testing.T) {
	longest := strings.Repeat("x", api.MaxEntry)
	for _, entries := range [][]string{nil, {}, {""}, {longest}, {"", longest}, times(99, "y"), times(100, ""), times(100, longest), {"\x00", "\xff", "\x14\x15", "ä€"}} {
		wantWritten(t, entries, oldLog(entries), api.OK)
	}
	if old, _ := ferry.WriteOld(times(100, longest)); len(old) != api.MaxOld {
		t.Errorf("the longest log has %d bytes, want %d", len(old), api.MaxOld)
	}
}

func TestP4RandomLogs(t *testing.T) {
	r := rand.New(rand.NewSource(3))
	for range 200 {
		entries := randomLog(r)
		wantWritten(t, entries, oldLog(entries), api.OK)
	}
}

func TestP4WrongLogs(t *testing.T) {
	long := strings.Repeat("x", api.MaxEntry+1)
	wantWritten(t, times(101, ""), "", api.ErrMany)
	wantWritten(t, times(100000, "a"), "", api.ErrMany)
	for i := range 100 {
		entries := times(100, "a")
		entries[i] = long
		wantWritten(t, entries, "", api.ErrLong)
	}
	// A length that is cut to a byte would seem short.
	for _, n := range []int{21, 255, 256, 257, 276, 65536, 1 << 20} {
		wantWritten(t, []string{strings.Repeat("x", n)}, "", api.ErrLong)
	}
}

func TestP4ManyGoesAheadOfLong(t *testing.T) {
	long := strings.Repeat("x", api.MaxEntry+1)
	wantWritten(t, times(101, long), "", api.ErrMany)
	wantWritten(t, append(times(100, ""), long), "", api.ErrMany)
	wantWritten(t, append([]string{long}, times(100, "")...), "", api.ErrMany)
}

func TestP5Examples(t *testing.T) {
	old := oldLog(three)
	wantRead(t, old, three, api.OK, 0)
	wantRead(t, old[:len(old)-1], three[:2], api.ErrFrame, 2)
	wantRead(t, "\x01a\x00\x00", nil, api.ErrLink, 0)
	wantRead(t, "\x15", nil, api.ErrFrame, 0)
	wantRead(t, "", nil, api.OK, 0)
}

func TestP5ReadsWhatIsWritten(t *testing.T) {
	longest := strings.Repeat("x", api.MaxEntry)
	r := rand.New(rand.NewSource(4))
	logs := [][]string{{""}, {longest}, times(100, ""), times(100, longest), {"\x00", "\xff", "\x14\x15", "ä€"}}
	for range 200 {
		logs = append(logs, randomLog(r))
	}
	for _, entries := range logs {
		wantRead(t, oldLog(entries), entries, api.OK, 0)
		old, _ := ferry.WriteOld(entries)
		wantRead(t, old, entries, api.OK, 0)
	}
}

func TestP5FrameCutShortAtEachByte(t *testing.T) {
	longest := strings.Repeat("x", api.MaxEntry)
	for _, entries := range [][]string{three, {longest, "", longest}, times(100, longest)} {
		list := frames(entries)
		ahead := ""
		for number, frame := range list {
			wantRead(t, ahead, entries[:number], api.OK, 0)
			for n := 1; n < len(frame); n++ {
				wantRead(t, ahead+frame[:n], entries[:number], api.ErrFrame, number)
			}
			ahead += frame
		}
	}
}

func TestP5FirstByteAboveMaxEntry(t *testing.T) {
	for size := range 256 {
		// The frame is whole and its link is right, so that its first byte alone can be what is wrong.
		entry := strings.Repeat("x", size)
		list := frames(append(slices.Clone(three), entry))
		old := strings.Join(list, "")
		if size <= api.MaxEntry {
			wantRead(t, old, append(slices.Clone(three), entry), api.OK, 0)
			continue
		}
		wantRead(t, old, three, api.ErrFrame, 3)
		wantRead(t, frames([]string{entry})[0], nil, api.ErrFrame, 0)
		wantRead(t, oldLog(three)+string([]byte{byte(size)}), three, api.ErrFrame, 3)
	}
}

func TestP5WrongLinkInEachFrame(t *testing.T) {
	for _, entries := range [][]string{three, times(100, strings.Repeat("x", api.MaxEntry))} {
		list := frames(entries)
		ahead := ""
		for number, frame := range list {
			behind := strings.Join(list[number+1:], "")
			for bit := range 8 {
				wantRead(t, ahead+flipped(frame, len(frame)-2, bit)+behind, entries[:number], api.ErrLink, number)
				wantRead(t, ahead+flipped(frame, len(frame)-1, bit)+behind, entries[:number], api.ErrLink, number)
			}
			ahead += frame
		}
	}
}

// A frame that is right at its own place is wrong at another, because the link ahead of it is summed too.
func TestP5FramesOutOfTheirPlace(t *testing.T) {
	list := frames(three)
	wantRead(t, list[1], nil, api.ErrLink, 0)
	wantRead(t, list[0]+list[0], three[:1], api.ErrLink, 1)
	wantRead(t, list[0]+list[2], three[:1], api.ErrLink, 1)
	swapped := "\x01a" + two(weak("a\x00\x00"))
	wantRead(t, swapped, nil, api.ErrLink, 0)
	lowerFirst := "\x01a\x74\xea"
	wantRead(t, lowerFirst, nil, api.ErrLink, 0)
}

func TestP5FrameWithTheNumberMaxEntries(t *testing.T) {
	hundred := times(100, "ab")
	list := frames(times(101, "ab"))
	old := strings.Join(list[:100], "")
	wantRead(t, old, hundred, api.OK, 0)
	wantRead(t, old+list[100], hundred, api.ErrFrame, 100)
	wantRead(t, oldLog(times(102, "ab")), hundred, api.ErrFrame, 100)
	wantRead(t, oldLog(times(700, "")), times(100, ""), api.ErrFrame, 100)
	// The same frame is bad in another way too.
	wantRead(t, old+flipped(list[100], len(list[100])-1, 0), hundred, api.ErrFrame, 100)
	wantRead(t, old+list[100][:2], hundred, api.ErrFrame, 100)
	wantRead(t, old+"\xff", hundred, api.ErrFrame, 100)
	wantRead(t, old+"\x00", hundred, api.ErrFrame, 100)
}

func TestP5LengthOfTheText(t *testing.T) {
	entries := times(100, strings.Repeat("x", api.MaxEntry))
	old := oldLog(entries)
	wantRead(t, old, entries, api.OK, 0)
	wantRead(t, old[:api.MaxOld-1], entries[:99], api.ErrFrame, 99)
	wantRead(t, strings.Repeat("\x15", api.MaxOld), nil, api.ErrFrame, 0)
	wantRead(t, strings.Repeat("\x00", api.MaxOld), nil, api.ErrLink, 0)
	for _, more := range []string{"\x00", "\x15", "x", old} {
		wantRead(t, old+more, nil, api.ErrLong, 0)
	}
	wantRead(t, oldLog(times(767, "")), nil, api.ErrLong, 0)
	wantRead(t, oldLog(times(766, "")), times(100, ""), api.ErrFrame, 100)
	wantRead(t, strings.Repeat("\x15", api.MaxOld+1), nil, api.ErrLong, 0)
	wantRead(t, strings.Repeat("\x00", api.MaxOld+1), nil, api.ErrLong, 0)
	wantRead(t, strings.Repeat("x", 1<<20), nil, api.ErrLong, 0)
}

func TestP5FirstBadFrameTells(t *testing.T) {
	list := frames(three)
	wrongLink := flipped(list[1], 3, 0)
	wantRead(t, list[0]+wrongLink+"\xff", three[:1], api.ErrLink, 1)
	wantRead(t, list[0]+wrongLink+list[2][:2], three[:1], api.ErrLink, 1)
	wantRead(t, list[0]+"\xff"+wrongLink, three[:1], api.ErrFrame, 1)
	wantRead(t, flipped(list[0], 2, 7)+wrongLink, nil, api.ErrLink, 0)
	wantRead(t, flipped(list[0], 3, 7)+strings.Repeat("\xff", 50), nil, api.ErrLink, 0)
}

func TestP5FrameGoesAheadOfLink(t *testing.T) {
	wantRead(t, "\x15"+strings.Repeat("x", 21)+"\x00\x00", nil, api.ErrFrame, 0)
	wantRead(t, "\x01a\x00", nil, api.ErrFrame, 0)
	wantRead(t, "\x00\x00", nil, api.ErrFrame, 0)
	wantRead(t, oldLog(three)+"\x14"+strings.Repeat("x", 21), three, api.ErrFrame, 3)
}

// told: what the document asks of ReadOld, by a count of how many frames ahead are good.
func told(old string) ([]string, api.Errno, int) {
	if len(old) > 2300 {
		return nil, api.ErrLong, 0
	}
	var good []string
	for {
		rest := old[len(oldLog(good)):]
		switch {
		case rest == "":
			return good, api.OK, 0
		case len(good) == 100, rest[0] > 20, len(rest) < int(rest[0])+3:
			return good, api.ErrFrame, len(good)
		}
		more := append(slices.Clone(good), rest[1:1+rest[0]])
		if !strings.HasPrefix(old, oldLog(more)) {
			return good, api.ErrLink, len(good)
		}
		good = more
	}
}

func TestP5RandomFaults(t *testing.T) {
	r := rand.New(rand.NewSource(5))
	for range 2000 {
		log := randomLog(r)
		old := oldLog(log[:min(len(log), 8)])
		switch r.Intn(4) {
		case 0:
			old = old[:r.Intn(len(old)+1)]
		case 1:
			old += randomText(r, r.Intn(30))
		case 2:
			if old != "" {
				old = flipped(old, r.Intn(len(old)), r.Intn(8))
			}
		case 3:
			old = randomText(r, r.Intn(60))
		}
		entries, fault, number := told(old)
		wantRead(t, old, entries, fault, number)
	}
}
