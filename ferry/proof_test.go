package ferry_test

import (
	"hash/fnv"
	"math"
	"math/rand"
	"slices"
	"strings"
	"testing"

	"ferry/api"
	"ferry/ferry"
)

// linksOf: 0, and behind it the links of a log's entries, made without the program: link i is the one ahead of entry i, the last one the head.
func linksOf(entries []string) []uint16 {
	links := []uint16{0}
	for i, entry := range entries {
		links = append(links, weak(two(links[i])+entry))
	}
	return links
}

// headOf: the head of a log.
func headOf(entries []string) uint16 { return linksOf(entries)[len(entries)] }

// proofOf: the proof of entry i of a log, made without the program.
func proofOf(entries []string, i int) api.OldProof {
	return api.OldProof{Before: linksOf(entries)[i], Rest: slices.Clone(entries[i+1:])}
}

// summed: the texts over which a proof sums its links, one for each place from the entry's on.
func summed(entry string, p api.OldProof) []string {
	texts := []string{two(p.Before) + entry}
	for k, text := range p.Rest {
		texts = append(texts, two(weak(texts[k]))+text)
	}
	return texts
}

// holds: what the document asks of OldVerify.
func holds(head uint16, n, i int, entry string, p api.OldProof) bool {
	if i < 0 || i >= n || uint64(n)-uint64(i) != uint64(len(p.Rest))+1 {
		return false
	}
	texts := summed(entry, p)
	return weak(texts[len(texts)-1]) == head
}

// meeting: another text than one that is known, of so many bytes, 3 or more, that gives a link what is wanted.
func meeting(t *testing.T, r *rand.Rand, link, want uint16, size int, known string) string {
	t.Helper()
	ahead := randomText(r, size-3)
	// The sum of what all tries begin with is that of which the sum of each goes on.
	h := fnv.New32a()
	h.Write([]byte(two(link) + ahead))
	first := r.Intn(1 << 24)
	for k := first; k < first+1<<24; k++ {
		end := []byte{byte(k), byte(k >> 8), byte(k >> 16)}
		sum := h.Sum32()
		for _, b := range end {
			sum = (sum ^ uint32(b)) * 16777619
		}
		if uint16(sum>>16)^uint16(sum) == want && ahead+string(end) != known {
			return ahead + string(end)
		}
	}
	t.Fatalf("no text of %d bytes behind the link %04x has the weak sum %04x", size, link, want)
	return ""
}

func wantProof(t *testing.T, entries []string, i int, want api.OldProof, fault api.Errno) {
	t.Helper()
	p, e := ferry.OldProve(entries, i)
	if p.Before != want.Before || !slices.Equal(p.Rest, want.Rest) || e != fault {
		t.Errorf("OldProve of %d entries (%.60q), entry %d, = %04x, %.60q, %d, want %04x, %.60q, %d", len(entries), entries, i, p.Before, p.Rest, e, want.Before, want.Rest, fault)
	}
}

func wantHeld(t *testing.T, head uint16, n, i int, entry string, p api.OldProof, want bool) {
	t.Helper()
	if ferry.OldVerify(head, n, i, entry, p) != want {
		t.Errorf("OldVerify of entry %d of %d, %.30q, with the head %04x, %04x and %d texts, = %t, want %t", i, n, entry, head, p.Before, len(p.Rest), !want, want)
	}
}

func TestP11Examples(t *testing.T) {
	l0 := uint16(0xea74)
	l1 := weak("\xea\x74bc")
	wantProof(t, three, 0, api.OldProof{Rest: []string{"bc", ""}}, api.OK)
	wantProof(t, three, 1, api.OldProof{Before: l0, Rest: []string{""}}, api.OK)
	wantProof(t, three, 2, api.OldProof{Before: l1}, api.OK)
	head := weak(two(l1))
	wantHeld(t, head, 3, 0, "a", api.OldProof{Rest: []string{"bc", ""}}, true)
	wantHeld(t, head, 3, 1, "bc", api.OldProof{Before: l0, Rest: []string{""}}, true)
	wantHeld(t, head, 3, 2, "", api.OldProof{Before: l1}, true)
}

func TestP11EveryNumberOfEntries(t *testing.T) {
	for n := range api.MaxEntries + 1 {
		entries := manyEntries(n)
		for i, entry := range entries {
			wantProof(t, entries, i, proofOf(entries, i), api.OK)
			p, _ := ferry.OldProve(entries, i)
			wantHeld(t, headOf(entries), n, i, entry, p, true)
		}
		for _, i := range []int{-1, n, n + 1, math.MaxInt, math.MinInt} {
			wantProof(t, entries, i, api.OldProof{}, api.ErrIndex)
		}
	}
}

func TestP11RandomLogs(t *testing.T) {
	r := rand.New(rand.NewSource(23))
	longest := strings.Repeat("x", api.MaxEntry)
	logs := [][]string{times(100, ""), times(99, ""), times(100, longest), {longest}, {""}, {"", longest}, {longest, ""}, {"\x00", "\x01", "\xff", "ä€"}}
	for range 100 {
		logs = append(logs, randomLog(r))
	}
	for _, entries := range logs {
		for i, entry := range entries {
			wantProof(t, entries, i, proofOf(entries, i), api.OK)
			wantHeld(t, headOf(entries), len(entries), i, entry, proofOf(entries, i), true)
		}
	}
}

func TestP11OldProveErrors(t *testing.T) {
	longest := strings.Repeat("x", api.MaxEntry)
	for _, i := range append([]int{50, 102}, oddNumbers...) {
		wantProof(t, times(101, "a"), i, api.OldProof{}, api.ErrMany)
		wantProof(t, times(101, longest+"x"), i, api.OldProof{}, api.ErrMany)
		wantProof(t, append(times(100, "a"), longest+"x"), i, api.OldProof{}, api.ErrMany)
		wantProof(t, []string{longest + "x"}, i, api.OldProof{}, api.ErrLong)
		wantProof(t, []string{longest + "x", "a", "b"}, i, api.OldProof{}, api.ErrLong)
		wantProof(t, []string{"a", "b", longest + "x"}, i, api.OldProof{}, api.ErrLong)
		wantProof(t, append(times(99, longest), longest+"x"), i, api.OldProof{}, api.ErrLong)
		wantProof(t, nil, i, api.OldProof{}, api.ErrIndex)
		if i < 0 || i > 99 {
			wantProof(t, times(100, longest), i, api.OldProof{}, api.ErrIndex)
		}
		if i < 0 || i > 2 {
			wantProof(t, three, i, api.OldProof{}, api.ErrIndex)
		}
	}
}

// Each thing that OldVerify is told is made another, with everything else as it was.
func TestP11WrongProofs(t *testing.T) {
	for _, n := range []int{1, 2, 3, 7, 99, 100} {
		entries := manyEntries(n)
		head := headOf(entries)
		for i, entry := range entries {
			p := proofOf(entries, i)
			for bit := range 16 {
				wantHeld(t, head^1<<bit, n, i, entry, p, false)
				other := api.OldProof{Before: p.Before ^ 1<<bit, Rest: p.Rest}
				wantHeld(t, head, n, i, entry, other, holds(head, n, i, entry, other))
			}
			wantHeld(t, head, n, i, entry+"!", p, holds(head, n, i, entry+"!", p))
			wantHeld(t, head, n-1, i, entry, p, false)
			wantHeld(t, head, n+1, i, entry, p, false)
			wantHeld(t, head, n, i-1, entry, p, false)
			wantHeld(t, head, n, i+1, entry, p, false)
			// The proof tells how many entries stand behind its own, but not how many stand ahead of it.
			wantHeld(t, head, n+1, i+1, entry, p, true)
			wantHeld(t, head, n-1, i-1, entry, p, i > 0)
		}
	}
}

// A text more or less in Rest, at each place, is refused even where the links come to the head.
func TestP11RestOfAnotherLength(t *testing.T) {
	r := rand.New(rand.NewSource(24))
	entries := manyEntries(6)
	head := headOf(entries)
	for i, entry := range entries {
		p := proofOf(entries, i)
		for k := range len(p.Rest) + 1 {
			wantHeld(t, head, 6, i, entry, api.OldProof{Before: p.Before, Rest: slices.Insert(slices.Clone(p.Rest), k, "x")}, false)
		}
		for k := range p.Rest {
			wantHeld(t, head, 6, i, entry, api.OldProof{Before: p.Before, Rest: slices.Delete(slices.Clone(p.Rest), k, k+1)}, false)
		}
		more := api.OldProof{Before: p.Before, Rest: append(slices.Clone(p.Rest), meeting(t, r, head, head, 4, ""))}
		wantHeld(t, head, 6, i, entry, more, false)
		wantHeld(t, head, 7, i, entry, more, true)
		if i < 5 {
			fewer := api.OldProof{Before: p.Before, Rest: p.Rest[:4-i]}
			wantHeld(t, headOf(entries[:5]), 6, i, entry, fewer, false)
			wantHeld(t, headOf(entries[:5]), 5, i, entry, fewer, true)
		}
	}
}

func TestP11OddNumbers(t *testing.T) {
	for length := range 5 {
		p := api.OldProof{Before: 7, Rest: times(length, "x")}
		texts := summed("e", p)
		head := weak(texts[length])
		for _, n := range oddNumbers {
			for _, i := range append([]int{n - 1 - length, n - length, n - 2 - length, n - 1, n, n + length}, oddNumbers...) {
				wantHeld(t, head, n, i, "e", p, holds(head, n, i, "e", p))
				wantHeld(t, ^head, n, i, "e", p, false)
			}
		}
		wantHeld(t, head, math.MaxInt, math.MaxInt-1-length, "e", p, true)
		wantHeld(t, head, math.MinInt, math.MaxInt-length, "e", p, false)
		wantHeld(t, head, length, -1, "e", p, false)
		wantHeld(t, head, 1+length, 0, "e", p, true)
	}
}

// No log has such entries, nor so many; OldVerify speaks of them.
func TestP11TextsOfAnyLength(t *testing.T) {
	r := rand.New(rand.NewSource(25))
	for _, size := range []int{0, 1, 19, 20, 21, 22, 255, 256, 2300, 2301, 1 << 16} {
		for _, length := range []int{0, 1, 2, 9} {
			entry, p := randomText(r, size), api.OldProof{Before: uint16(r.Intn(1 << 16))}
			for range length {
				p.Rest = append(p.Rest, randomText(r, size))
			}
			texts := summed(entry, p)
			head := weak(texts[length])
			wantHeld(t, head, length+1, 0, entry, p, true)
			wantHeld(t, head, length+101, 100, entry, p, true)
			wantHeld(t, head+1, length+1, 0, entry, p, false)
		}
	}
	many := times(3000, "abcdefghijklmnopqrstu")
	for _, i := range []int{0, 1, 2899, 2999} {
		wantHeld(t, headOf(many), 3000, i, many[i], proofOf(many, i), true)
		wantHeld(t, headOf(many), 3001, i, many[i], proofOf(many, i), false)
	}
}

// The weak sum does not keep a proof to the log's own entry: what comes to the head is accepted.
func TestP11ProofsOfOtherEntries(t *testing.T) {
	r := rand.New(rand.NewSource(26))
	entries := manyEntries(5)
	links := linksOf(entries)
	for i, entry := range entries {
		other := meeting(t, r, links[i], links[i+1], 4, entry)
		wantHeld(t, links[5], 5, i, other, proofOf(entries, i), true)
		wantHeld(t, links[5], 5, i, other+"!", proofOf(entries, i), holds(links[5], 5, i, other+"!", proofOf(entries, i)))
	}
}
