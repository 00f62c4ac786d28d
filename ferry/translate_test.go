package ferry_test

import (
	"math/rand"
	"slices"
	"strings"
	"testing"

	"ferry/api"
	"ferry/ferry"
)

// translated: what the document asks of Translate.
func translated(t *testing.T, old string, i int, entry string, p api.OldProof) (api.Carried, api.Errno) {
	t.Helper()
	entries, fault, _ := toldOnce(old)
	switch {
	case fault != api.OK:
		return api.Carried{}, fault
	case i < 0 || i >= len(entries):
		return api.Carried{}, api.ErrIndex
	case !holds(headOf(entries), len(entries), i, entry, p):
		return api.Carried{}, api.ErrProof
	case entry == entries[i]:
		return api.Carried{Proof: pathOf(levels(entries), i)}, api.OK
	}
	lefts, rights := summed(entry, p), summed(entries[i], proofOf(entries, i))
	for k, left := range lefts {
		if left != rights[k] && weak(left) == weak(rights[k]) {
			return api.Carried{Left: left, Right: rights[k]}, api.ErrCollision
		}
	}
	t.Fatalf("no two texts meet, though the old log accepts a proof of another entry")
	return api.Carried{}, api.OK
}

func wantCarried(t *testing.T, old string, i int, entry string, p api.OldProof, want api.Carried, fault api.Errno) {
	t.Helper()
	c, e := ferry.Translate(old, i, entry, p)
	if !slices.Equal(c.Proof, want.Proof) || c.Left != want.Left || c.Right != want.Right || e != fault {
		t.Errorf("Translate of %.30q, entry %d, %.30q, %04x and %d texts, = %d roots, %.30q, %.30q, %d, want %d roots, %.30q, %.30q, %d", old, i, entry, p.Before, len(p.Rest), len(c.Proof), c.Left, c.Right, e, len(want.Proof), want.Left, want.Right, fault)
	}
}

// wantTranslated: Translate answers what the document asks. Out comes the error.
func wantTranslated(t *testing.T, old string, i int, entry string, p api.OldProof) api.Errno {
	t.Helper()
	want, fault := translated(t, old, i, entry, p)
	wantCarried(t, old, i, entry, p, want, fault)
	return fault
}

// wantRefused: Translate answers this error, and nothing beside it.
func wantRefused(t *testing.T, old string, i int, entry string, p api.OldProof, fault api.Errno) {
	t.Helper()
	wantCarried(t, old, i, entry, p, api.Carried{}, fault)
}

// detour: texts for the places from one on up to another of a log, by whose links a proof that comes with a link other than the log's, or
// with another text, goes beside the log, and meets it at the last of them. All are of so many bytes, 3 or more, and none is the log's.
func detour(t *testing.T, r *rand.Rand, entries []string, link uint16, from, place, size int) []string {
	t.Helper()
	links := linksOf(entries)
	var texts []string
	for at := from; at < place; at++ {
		text := randomText(r, size)
		for text == entries[at] || weak(two(link)+text) == links[at+1] {
			text = randomText(r, size)
		}
		texts = append(texts, text)
		link = weak(two(link) + text)
	}
	return append(texts, meeting(t, r, link, links[place+1], size, entries[place]))
}

// forged: another entry for place i of a log, with a proof that the log accepts, and that meets it at a place, not ahead of it.
func forged(t *testing.T, r *rand.Rand, entries []string, before uint16, i, place, size int) (string, api.OldProof) {
	t.Helper()
	texts := detour(t, r, entries, before, i, place, size)
	return texts[0], api.OldProof{Before: before, Rest: slices.Concat(texts[1:], entries[place+1:])}
}

// wantMeeting: for another entry Translate answers the texts of this place, and nothing else.
func wantMeeting(t *testing.T, entries []string, i, place int, entry string, p api.OldProof) {
	t.Helper()
	left := summed(entry, p)[place-i]
	right := two(linksOf(entries)[place]) + entries[place]
	if left == right || weak(left) != weak(right) {
		t.Fatalf("at place %d %q and %q do not meet", place, left, right)
	}
	wantCarried(t, oldLog(entries), i, entry, p, api.Carried{Left: left, Right: right}, api.ErrCollision)
	wantTranslated(t, oldLog(entries), i, entry, p)
}

func TestP12Examples(t *testing.T) {
	old := "\x01a\xea\x74\x02bc" + two(weak("\xea\x74bc")) + "\x00" + two(weak(two(weak("\xea\x74bc"))))
	wantCarried(t, old, 1, "bc", api.OldProof{Before: 0xea74, Rest: []string{""}}, api.Carried{Proof: []api.Digest{leafSum("a"), leafSum("")}}, api.OK)
	wantCarried(t, old, 0, "a", api.OldProof{Rest: []string{"bc", ""}}, api.Carried{Proof: []api.Digest{leafSum("bc"), leafSum("")}}, api.OK)
	s := nodeSum(leafSum("a"), leafSum("bc"))
	wantCarried(t, old, 2, "", api.OldProof{Before: weak("\xea\x74bc")}, api.Carried{Proof: []api.Digest{s}}, api.OK)
	wantCarried(t, "\x01a\xea\x74", 0, "a", api.OldProof{}, api.Carried{}, api.OK)
}

func TestP12OwnProofs(t *testing.T) {
	longest := strings.Repeat("x", api.MaxEntry)
	logs := [][]string{{""}, {longest}, {"", longest}, times(100, ""), times(100, longest), times(99, longest)}
	for _, n := range []int{1, 2, 3, 4, 5, 64, 65, 99, 100} {
		logs = append(logs, manyEntries(n))
	}
	for _, entries := range logs {
		old, all := oldLog(entries), levels(entries)
		for i, entry := range entries {
			wantCarried(t, old, i, entry, proofOf(entries, i), api.Carried{Proof: pathOf(all, i)}, api.OK)
		}
	}
}

// The texts meet at the entry itself, behind it, and at the last entry; with the log's link ahead of the entry, and with others.
func TestP12Collisions(t *testing.T) {
	r := rand.New(rand.NewSource(27))
	for _, n := range []int{1, 2, 5} {
		entries := manyEntries(n)
		for i := range n {
			own := linksOf(entries)[i]
			for place := i; place < n; place++ {
				for _, size := range []int{3, 20, 21, 300} {
					for _, before := range []uint16{own, own ^ 1, own ^ 0x8000, uint16(r.Intn(1 << 16))} {
						entry, p := forged(t, r, entries, before, i, place, size)
						wantMeeting(t, entries, i, place, entry, p)
					}
				}
			}
		}
	}
}

func TestP12CollisionsInLongLogs(t *testing.T) {
	r := rand.New(rand.NewSource(28))
	for _, entries := range [][]string{manyEntries(99), manyEntries(100), times(100, ""), times(100, strings.Repeat("x", api.MaxEntry))} {
		last := len(entries) - 1
		for _, i := range []int{0, 1, 63, 64, last - 1, last} {
			for _, place := range []int{i, min(i+1, last), min(i+20, last), last} {
				entry, p := forged(t, r, entries, linksOf(entries)[i], i, place, 4)
				wantMeeting(t, entries, i, place, entry, p)
			}
		}
	}
}

// Of several places where the texts meet, the first one is told: behind it the proof leaves the log again.
func TestP12MeetsMoreThanOnce(t *testing.T) {
	r := rand.New(rand.NewSource(29))
	entries := manyEntries(7)
	links := linksOf(entries)
	for i := range 5 {
		for first := i; first < 6; first++ {
			for again := first + 1; again < 7; again++ {
				entry, p := forged(t, r, entries, links[i], i, first, 4)
				next := detour(t, r, entries, links[first+1], first+1, again, 4)
				p.Rest = slices.Concat(p.Rest[:first-i], next, entries[again+1:])
				wantMeeting(t, entries, i, first, entry, p)
			}
		}
	}
}

// On the way to the place where they meet, the proof's entries may be the log's own: the links ahead of them keep the texts apart.
func TestP12OnlyTheLinksDiffer(t *testing.T) {
	r := rand.New(rand.NewSource(30))
	entries := manyEntries(6)
	links := linksOf(entries)
	for i := range 5 {
		p := api.OldProof{Before: links[i], Rest: slices.Clone(entries[i+1 : 5])}
		texts := summed("other", p)
		for k, text := range texts {
			if weak(text) == links[i+k+1] {
				t.Fatalf("the texts meet at place %d, too early for this test", i+k)
			}
		}
		p.Rest = append(p.Rest, meeting(t, r, weak(texts[len(texts)-1]), links[6], 4, entries[5]))
		wantMeeting(t, entries, i, 5, "other", p)
	}
}

// The two texts differ in nothing but the link that they begin with.
func TestP12MeetsByTheLinkAlone(t *testing.T) {
	r := rand.New(rand.NewSource(31))
	for tries := range 1000 {
		entries := []string{"a", randomText(r, 3), "z"}
		links := linksOf(entries)
		for _, before := range othersBehind(links[1], entries[1]) {
			entry := meeting(t, r, 0, before, 4, "a")
			wantMeeting(t, entries, 0, 1, entry, api.OldProof{Rest: entries[1:]})
			if tries > 5 {
				return
			}
		}
	}
	t.Errorf("no link but the log's own has the same weak sum with an entry")
}

// othersBehind: the links, but for this one, with which an entry has the weak sum that it has with this one.
func othersBehind(link uint16, entry string) []uint16 {
	var others []uint16
	for other := range 1 << 16 {
		if uint16(other) != link && weak(two(uint16(other))+entry) == weak(two(link)+entry) {
			others = append(others, uint16(other))
		}
	}
	return others
}

// The log's own entry is translated, whatever links the proof comes by.
func TestP12OwnEntryByAnotherProof(t *testing.T) {
	r := rand.New(rand.NewSource(32))
	entries := manyEntries(6)
	links, all := linksOf(entries), levels(entries)
	for i, entry := range entries {
		for _, before := range othersBehind(links[i], entry) {
			p := api.OldProof{Before: before, Rest: entries[i+1:]}
			wantCarried(t, oldLog(entries), i, entry, p, api.Carried{Proof: pathOf(all, i)}, api.OK)
		}
		for place := i + 1; place < 6; place++ {
			for _, before := range []uint16{links[i], links[i] ^ 1} {
				rest := detour(t, r, entries, weak(two(before)+entry), i+1, place, 4)
				p := api.OldProof{Before: before, Rest: slices.Concat(rest, entries[place+1:])}
				wantCarried(t, oldLog(entries), i, entry, p, api.Carried{Proof: pathOf(all, i)}, api.OK)
			}
		}
	}
}

// A bad frame goes ahead of all else, wherever it stands.
func TestP12BadFrames(t *testing.T) {
	entries := manyEntries(5)
	for number := range entries {
		for k, old := range badLogs(entries, number) {
			fault := []api.Errno{api.ErrFrame, api.ErrFrame, api.ErrFrame, api.ErrLink}[k]
			for i, entry := range entries {
				wantRefused(t, old, i, entry, proofOf(entries, i), fault)
				wantRefused(t, old, i, entry+"!", api.OldProof{}, fault)
				if i < number {
					wantRefused(t, old, i, entry, proofOf(entries[:number], i), fault)
				}
			}
			for _, i := range oddNumbers {
				wantRefused(t, old, i, "", api.OldProof{}, fault)
			}
		}
	}
	hundred := manyEntries(100)
	for _, more := range []string{"\x00", "\x00\x00\x00", "x"} {
		wantRefused(t, oldLog(hundred)+more, 5, hundred[5], proofOf(hundred, 5), api.ErrFrame)
		wantRefused(t, oldLog(hundred)+more, 100, "", api.OldProof{}, api.ErrFrame)
	}
	wantRefused(t, oldLog(times(101, "a")), 0, "a", proofOf(times(101, "a"), 0), api.ErrFrame)
	wantRefused(t, "\x15", 0, "", api.OldProof{}, api.ErrFrame)
	wantRefused(t, "\x01a\x00\x00", 0, "a", api.OldProof{}, api.ErrLink)
}

func TestP12LongText(t *testing.T) {
	entries := times(100, strings.Repeat("x", api.MaxEntry))
	old := oldLog(entries)
	for _, i := range append([]int{50}, oddNumbers...) {
		for _, long := range []string{old + "\x00", strings.Repeat("\x00", 2301), strings.Repeat("x", 1<<20)} {
			wantRefused(t, long, i, entries[0], api.OldProof{}, api.ErrLong)
			wantRefused(t, long, i, entries[0], proofOf(entries, 0), api.ErrLong)
		}
	}
	wantRefused(t, strings.Repeat("x", 2300), 0, "", api.OldProof{}, api.ErrFrame)
	wantRefused(t, strings.Repeat("\x00", 2300), 0, "", api.OldProof{}, api.ErrLink)
	wantCarried(t, old, 99, entries[99], proofOf(entries, 99), api.Carried{Proof: pathOf(levels(entries), 99)}, api.OK)
}

func TestP12NoSuchEntry(t *testing.T) {
	for _, entries := range [][]string{nil, {""}, {"a"}, three, manyEntries(99), manyEntries(100)} {
		old, n := oldLog(entries), len(entries)
		for _, i := range append([]int{n, n + 1, -1 - n, n + 100}, oddNumbers...) {
			if i >= 0 && i < n {
				continue
			}
			wantRefused(t, old, i, "", api.OldProof{}, api.ErrIndex)
			wantRefused(t, old, i, "", api.OldProof{Before: headOf(entries)}, api.ErrIndex)
			wantRefused(t, old, i, "", api.OldProof{Rest: entries}, api.ErrIndex)
		}
	}
}

func TestP12WrongProofs(t *testing.T) {
	for _, n := range []int{1, 2, 3, 7, 99, 100} {
		entries := manyEntries(n)
		old, head := oldLog(entries), headOf(entries)
		for i, entry := range entries {
			p := proofOf(entries, i)
			wantRefused(t, old, i, entry, api.OldProof{Before: p.Before, Rest: append(slices.Clone(p.Rest), "")}, api.ErrProof)
			if i < n-1 {
				wantRefused(t, old, i, entry, api.OldProof{Before: p.Before, Rest: p.Rest[1:]}, api.ErrProof)
				wantRefused(t, old, i, entry, api.OldProof{Before: p.Before, Rest: p.Rest[:n-2-i]}, api.ErrProof)
				wantRefused(t, old, i+1, entry, p, api.ErrProof)
			}
			if i > 0 {
				wantRefused(t, old, i-1, entry, p, api.ErrProof)
			}
			for _, other := range []string{entry + "!", "another", strings.Repeat("y", 21), strings.Repeat("y", 3000)} {
				if !holds(head, n, i, other, p) {
					wantRefused(t, old, i, other, p, api.ErrProof)
				}
			}
			for bit := range 16 {
				wantTranslated(t, old, i, entry, api.OldProof{Before: p.Before ^ 1<<bit, Rest: p.Rest})
			}
		}
	}
}

// A proof that was right for another log is refused by this one, if the heads or the numbers of entries are others.
func TestP12ProofsOfAnotherLog(t *testing.T) {
	entries := manyEntries(6)
	for i := range 5 {
		wantRefused(t, oldLog(entries), i, entries[i], proofOf(entries[:5], i), api.ErrProof)
		wantRefused(t, oldLog(entries[:5]), i, entries[i], proofOf(entries, i), api.ErrProof)
		others := append(slices.Clone(entries[:5]), "another")
		wantRefused(t, oldLog(others), i, entries[i], proofOf(entries, i), api.ErrProof)
	}
}

// Proofs that are right, forged, and changed at random afterwards.
func TestP12RandomProofs(t *testing.T) {
	r := rand.New(rand.NewSource(33))
	seen := map[api.Errno]int{}
	for range 600 {
		entries := manyEntries(1 + r.Intn(30))
		i := r.Intn(len(entries))
		entry, p := entries[i], proofOf(entries, i)
		if r.Intn(3) > 0 {
			before := []uint16{p.Before, uint16(r.Intn(1 << 16))}[r.Intn(2)]
			entry, p = forged(t, r, entries, before, i, i+r.Intn(len(entries)-i), 3+r.Intn(30))
		}
		switch r.Intn(10) {
		case 0:
			p.Before ^= 1 << r.Intn(16)
		case 1:
			entry += "!"
		case 2:
			i = r.Intn(len(entries))
		case 3:
			p.Rest = append(p.Rest, "")
		case 4:
			entry = entries[i]
		}
		seen[wantTranslated(t, oldLog(entries), i, entry, p)]++
	}
	if seen[api.OK] < 50 || seen[api.ErrCollision] < 50 || seen[api.ErrProof] < 50 {
		t.Errorf("some answers hardly come: %v", seen)
	}
}

// wantProvenOrMet: an entry whose proof the old log accepts is proven under the root of the new log, or two texts with the same weak sum
// are at hand. Out comes whether it is proven.
func wantProvenOrMet(t *testing.T, old string, root api.Digest, n, i int, entry string, p api.OldProof) bool {
	t.Helper()
	c, e := ferry.Translate(old, i, entry, p)
	proven := e == api.OK && ferry.Verify(root, n, i, entry, c.Proof)
	met := e == api.ErrCollision && c.Left != c.Right && ferry.OldSum(c.Left) == ferry.OldSum(c.Right)
	if proven == met {
		t.Fatalf("of entry %d of %d, %.30q, Translate answers %d roots, %.30q, %.30q, %d, with which nothing is proven or met", i, n, entry, len(c.Proof), c.Left, c.Right, e)
	}
	return proven
}

// wantAllProven: each entry of a log is proven by its own proof under the root that Status tells of the disk. Out comes this root.
func wantAllProven(t *testing.T, entries []string, disk []api.Sector) api.Digest {
	t.Helper()
	old, _ := ferry.WriteOld(entries)
	n, root, fault := ferry.Status(disk)
	if n != len(entries) || fault != api.OK {
		t.Fatalf("Status tells %d entries of %d, %d", n, len(entries), fault)
	}
	for i, entry := range entries {
		p, _ := ferry.OldProve(entries, i)
		if !ferry.OldVerify(headOf(entries), n, i, entry, p) || !wantProvenOrMet(t, old, root, n, i, entry, p) {
			t.Fatalf("entry %d of %d is not proven by its own proof", i, n)
		}
	}
	return root
}

func TestP13LogsCarriedOverWhole(t *testing.T) {
	for _, entries := range diskLogs() {
		for _, batch := range []int{1, 7, 100} {
			wantAllProven(t, entries, carriedDisk(t, entries, enough(entries), batch))
		}
	}
}

func TestP13LogsCarriedOverByPlansThatCrash(t *testing.T) {
	r := rand.New(rand.NewSource(34))
	logs := diskLogs()
	for range 40 {
		logs = append(logs, randomLog(r))
	}
	for _, entries := range logs {
		wantAllProven(t, entries, roughDisk(t, r, entries))
	}
}

func TestP13ProofsOfOtherEntries(t *testing.T) {
	r := rand.New(rand.NewSource(35))
	for range 60 {
		entries := randomLog(r)
		root := wantAllProven(t, entries, roughDisk(t, r, entries))
		for range min(len(entries), 4) {
			i := r.Intn(len(entries))
			place := i + r.Intn(len(entries)-i)
			entry, p := forged(t, r, entries, linksOf(entries)[i], i, place, 3+r.Intn(18))
			if !ferry.OldVerify(headOf(entries), len(entries), i, entry, p) {
				t.Fatalf("the old log does not accept a proof that meets it at place %d", place)
			}
			if wantProvenOrMet(t, oldLog(entries), root, len(entries), i, entry, p) {
				t.Errorf("another entry %d is proven under the root of the log", i)
			}
		}
	}
}

// Every entry of up to two bytes behind the log's own link, and the log's own entry behind every link: whatever of this the old log accepts.
func TestP13EveryShortEntryAndEveryLink(t *testing.T) {
	root := wantAllProven(t, three, carriedDisk(t, three, 9, 2))
	old, head := oldLog(three), headOf(three)
	texts := []string{""}
	for b := range 256 {
		texts = append(texts, string([]byte{byte(b)}))
	}
	for n := range 1 << 16 {
		texts = append(texts, two(uint16(n)))
	}
	met := 0
	for i, own := range three {
		p := proofOf(three, i)
		for _, entry := range texts {
			if !ferry.OldVerify(head, 3, i, entry, p) {
				continue
			}
			proven := wantProvenOrMet(t, old, root, 3, i, entry, p)
			if proven != (entry == own) {
				t.Errorf("entry %d is %q; that %q is proven is %t", i, own, entry, proven)
			}
			if !proven {
				met++
			}
		}
		for before := range 1 << 16 {
			p.Before = uint16(before)
			if ferry.OldVerify(head, 3, i, own, p) && !wantProvenOrMet(t, old, root, 3, i, own, p) {
				t.Errorf("the log's own entry %d is not proven behind the link %04x", i, before)
			}
		}
	}
	if met == 0 {
		t.Errorf("the old log accepts no other entry: the test tries nothing")
	}
}
