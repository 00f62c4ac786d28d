package ferry_test

import (
	"crypto/sha256"
	"math"
	"math/rand"
	"slices"
	"strings"
	"testing"

	"ferry/api"
	"ferry/ferry"
)

// leafSum, nodeSum: the sums of an entry and of two roots, told by the library.
func leafSum(entry string) api.Digest { return sha256.Sum256([]byte("\x00" + entry)) }

func nodeSum(left, right api.Digest) api.Digest {
	return sha256.Sum256(slices.Concat([]byte{1}, left[:], right[:]))
}

// levels: the tree from its entries up, made without the program: neighbours are put together, and one that has none goes up as it is.
func levels(entries []string) [][]api.Digest {
	var level []api.Digest
	for _, entry := range entries {
		level = append(level, leafSum(entry))
	}
	all := [][]api.Digest{level}
	for len(level) > 1 {
		var above []api.Digest
		for k := 0; k+1 < len(level); k += 2 {
			above = append(above, nodeSum(level[k], level[k+1]))
		}
		if len(level)%2 == 1 {
			above = append(above, level[len(level)-1])
		}
		all = append(all, above)
		level = above
	}
	return all
}

// rootOf: the root of a log, made without the program.
func rootOf(entries []string) api.Digest {
	if len(entries) == 0 {
		return sha256.Sum256(nil)
	}
	all := levels(entries)
	return all[len(all)-1][0]
}

// pathOf: the path of entry i in a tree: its neighbour on each level where it has one.
func pathOf(all [][]api.Digest, i int) []api.Digest {
	var path []api.Digest
	for _, level := range all {
		if i^1 < len(level) {
			path = append(path, level[i^1])
		}
		i /= 2
	}
	return path
}

// lengthOf: how many roots the path of entry i of n has.
func lengthOf(n, i int) int {
	length := 0
	for ; n > 1; n, i = (n+1)/2, i/2 {
		if i^1 < n {
			length++
		}
	}
	return length
}

// led: the root to which a path of the right length leads, level by level.
func led(n, i int, entry string, path []api.Digest) api.Digest {
	sum := leafSum(entry)
	for ; n > 1; n, i = (n+1)/2, i/2 {
		if i^1 >= n {
			continue
		}
		if i%2 == 1 {
			sum = nodeSum(path[0], sum)
		} else {
			sum = nodeSum(sum, path[0])
		}
		path = path[1:]
	}
	return sum
}

// accepted: what the document asks of Verify.
func accepted(root api.Digest, n, i int, entry string, path []api.Digest) bool {
	return n >= 1 && n <= 1073741824 && i >= 0 && i < n && len(path) == lengthOf(n, i) && led(n, i, entry, path) == root
}

// manyEntries: n entries, no two of them the same, of 0 to 20 bytes.
func manyEntries(n int) []string {
	entries := make([]string, n)
	for i := range entries {
		entries[i] = (string([]byte{byte(i)}) + strings.Repeat("x", api.MaxEntry))[:1+i%api.MaxEntry]
	}
	if n > 1 {
		entries[1] = ""
	}
	return entries
}

// otherBit: the sum with one bit another.
func otherBit(sum api.Digest, bit int) api.Digest {
	sum[bit/8%len(sum)] ^= 1 << (bit % 8)
	return sum
}

// randomPath: so many roots.
func randomPath(r *rand.Rand, length int) []api.Digest {
	path := make([]api.Digest, length)
	for k := range path {
		r.Read(path[k][:])
	}
	return path
}

func wantRoot(t *testing.T, entries []string, want api.Digest, fault api.Errno) {
	t.Helper()
	root, e := ferry.Root(entries)
	if root != want || e != fault {
		t.Errorf("Root of %d entries (%.60q) = %x, %d, want %x, %d", len(entries), entries, root, e, want, fault)
	}
}

func wantPath(t *testing.T, entries []string, i int, want []api.Digest, fault api.Errno) {
	t.Helper()
	path, e := ferry.Prove(entries, i)
	if !slices.Equal(path, want) || e != fault {
		t.Errorf("Prove of %d entries (%.60q), entry %d, = %x, %d, want %x, %d", len(entries), entries, i, path, e, want, fault)
	}
}

func wantVerified(t *testing.T, root api.Digest, n, i int, entry string, path []api.Digest, want bool) {
	t.Helper()
	if ferry.Verify(root, n, i, entry, path) != want {
		t.Errorf("Verify of entry %d of %d, %.30q, by a path of %d roots, = %t, want %t", i, n, entry, len(path), !want, want)
	}
}

func TestP6Examples(t *testing.T) {
	r := leafSum("a")
	s := nodeSum(r, leafSum("bc"))
	wantRoot(t, nil, ferry.NewSum(""), api.OK)
	wantRoot(t, []string{}, ferry.NewSum(""), api.OK)
	wantRoot(t, []string{"a"}, r, api.OK)
	wantRoot(t, []string{""}, leafSum(""), api.OK)
	wantRoot(t, three, nodeSum(s, leafSum("")), api.OK)
	wantPath(t, []string{"a"}, 0, nil, api.OK)
	wantPath(t, three, 0, []api.Digest{leafSum("bc"), leafSum("")}, api.OK)
	wantPath(t, three, 1, []api.Digest{r, leafSum("")}, api.OK)
	wantPath(t, three, 2, []api.Digest{s}, api.OK)
}

// The five entries are put together by hand, so that the test does not hang on levels.
func TestP6FiveEntries(t *testing.T) {
	l := manyEntries(5)
	first, second := nodeSum(leafSum(l[0]), leafSum(l[1])), nodeSum(leafSum(l[2]), leafSum(l[3]))
	wantRoot(t, l, nodeSum(nodeSum(first, second), leafSum(l[4])), api.OK)
	wantRoot(t, l[:4], nodeSum(first, second), api.OK)
	wantRoot(t, l[:2], first, api.OK)
	wantPath(t, l, 0, []api.Digest{leafSum(l[1]), second, leafSum(l[4])}, api.OK)
	wantPath(t, l, 3, []api.Digest{leafSum(l[2]), first, leafSum(l[4])}, api.OK)
	wantPath(t, l, 4, []api.Digest{nodeSum(first, second)}, api.OK)
	wantPath(t, l[:4], 2, []api.Digest{leafSum(l[3]), first}, api.OK)
}

func TestP6EveryNumberOfEntries(t *testing.T) {
	for n := range api.MaxEntries + 1 {
		entries := manyEntries(n)
		wantRoot(t, entries, rootOf(entries), api.OK)
		all := levels(entries)
		for i := range entries {
			wantPath(t, entries, i, pathOf(all, i), api.OK)
		}
	}
}

func TestP6RandomLogs(t *testing.T) {
	r := rand.New(rand.NewSource(8))
	longest := strings.Repeat("x", api.MaxEntry)
	logs := [][]string{times(100, ""), times(100, longest), times(64, longest), {longest}, {"", longest}, {"\x00", "\x01", "\xff", "ä€"}}
	for range 100 {
		logs = append(logs, randomLog(r))
	}
	for _, entries := range logs {
		wantRoot(t, entries, rootOf(entries), api.OK)
		for _, i := range []int{0, len(entries) - 1, r.Intn(len(entries) + 1)} {
			if i >= 0 && i < len(entries) {
				wantPath(t, entries, i, pathOf(levels(entries), i), api.OK)
			}
		}
	}
}

func TestP6WrongLogs(t *testing.T) {
	long := strings.Repeat("x", api.MaxEntry+1)
	none := api.Digest{}
	for _, entries := range [][]string{times(101, ""), times(128, "a"), times(100000, "a"), times(101, long), append(times(100, ""), long), append([]string{long}, times(100, "")...)} {
		wantRoot(t, entries, none, api.ErrMany)
		for _, i := range []int{0, 50, 100, 101, len(entries), -1, math.MaxInt, math.MinInt} {
			wantPath(t, entries, i, nil, api.ErrMany)
		}
	}
	for at := range 100 {
		entries := times(100, "a")
		entries[at] = long
		wantRoot(t, entries, none, api.ErrLong)
		for _, i := range []int{0, at, 99, 100, -1, math.MaxInt, math.MinInt} {
			wantPath(t, entries, i, nil, api.ErrLong)
		}
	}
	for _, n := range []int{21, 256, 276, 1 << 20} {
		wantRoot(t, []string{strings.Repeat("x", n)}, none, api.ErrLong)
		wantPath(t, []string{strings.Repeat("x", n)}, 0, nil, api.ErrLong)
	}
}

func TestP6EntryThatThereIsNot(t *testing.T) {
	for _, n := range []int{0, 1, 2, 3, 4, 5, 63, 64, 65, 99, 100} {
		entries := manyEntries(n)
		for _, i := range []int{-1, -2, -n, -n - 1, n, n + 1, 2 * n, 128, 1 << 32, math.MaxInt, math.MinInt} {
			if i < 0 || i >= n {
				wantPath(t, entries, i, nil, api.ErrIndex)
			}
		}
	}
	wantPath(t, nil, 0, nil, api.ErrIndex)
}

func TestP7Examples(t *testing.T) {
	root := rootOf(three)
	path := []api.Digest{nodeSum(leafSum("a"), leafSum("bc"))}
	wantVerified(t, root, 3, 2, "", path, true)
	wantVerified(t, root, 4, 2, "", path, false)
	wantVerified(t, root, 3, 1, "", path, false)
	wantVerified(t, leafSum("a"), 1, 0, "a", nil, true)
	wantVerified(t, leafSum("a"), 1, 0, "a", []api.Digest{}, true)
}

func TestP7WhatProveTellsIsAccepted(t *testing.T) {
	for n := range api.MaxEntries + 1 {
		entries := manyEntries(n)
		root, _ := ferry.Root(entries)
		for i, entry := range entries {
			path, _ := ferry.Prove(entries, i)
			wantVerified(t, root, n, i, entry, path, true)
		}
	}
}

// treeSizes: small sizes, powers of two, and one less and one more.
var treeSizes = []int{1, 2, 3, 4, 5, 6, 7, 8, 9, 15, 16, 17, 31, 32, 33, 63, 64, 65, 99, 100}

// eachProof calls a test with every right proof of the trees of treeSizes.
func eachProof(test func(root api.Digest, n, i int, entry string, path []api.Digest)) {
	for _, n := range treeSizes {
		entries := manyEntries(n)
		all, root := levels(entries), rootOf(entries)
		for i, entry := range entries {
			test(root, n, i, entry, pathOf(all, i))
		}
	}
}

func TestP7PathOfAnotherLength(t *testing.T) {
	eachProof(func(root api.Digest, n, i int, entry string, path []api.Digest) {
		wantVerified(t, root, n, i, entry, path, true)
		for k := range path {
			wantVerified(t, root, n, i, entry, slices.Delete(slices.Clone(path), k, k+1), false)
		}
		for k := range len(path) + 1 {
			for _, more := range []api.Digest{{}, root, leafSum(entry)} {
				wantVerified(t, root, n, i, entry, slices.Insert(slices.Clone(path), k, more), false)
			}
		}
		// The roots to which longer paths would lead are not accepted for them either.
		longer := append(slices.Clone(path), root)
		wantVerified(t, nodeSum(root, root), n, i, entry, longer, false)
	})
	wantVerified(t, rootOf(three), 3, 2, "", nil, false)
	wantVerified(t, leafSum(""), 3, 2, "", nil, false)
	wantVerified(t, leafSum("a"), 2, 0, "a", nil, false)
	wantVerified(t, leafSum("a"), 1, 0, "a", make([]api.Digest, 1<<20), false)
	wantVerified(t, leafSum("a"), 1<<30, 0, "a", make([]api.Digest, 1<<20), false)
}

func TestP7PathInAnotherOrder(t *testing.T) {
	eachProof(func(root api.Digest, n, i int, entry string, path []api.Digest) {
		for k := range path {
			for j := range k {
				other := slices.Clone(path)
				other[j], other[k] = other[k], other[j]
				wantVerified(t, root, n, i, entry, other, false)
			}
		}
	})
}

func TestP7BitTurned(t *testing.T) {
	turn := 0
	eachProof(func(root api.Digest, n, i int, entry string, path []api.Digest) {
		turn += 37
		wantVerified(t, otherBit(root, turn), n, i, entry, path, false)
		for k := range path {
			other := slices.Clone(path)
			other[k] = otherBit(other[k], turn+k)
			wantVerified(t, root, n, i, entry, other, false)
		}
		if entry != "" {
			wantVerified(t, root, n, i, flipped(entry, turn%len(entry), turn%8), path, false)
		}
	})
	entries := manyEntries(7)
	root, path := rootOf(entries), pathOf(levels(entries), 5)
	for bit := range 256 {
		wantVerified(t, otherBit(root, bit), 7, 5, entries[5], path, false)
		for k := range path {
			other := slices.Clone(path)
			other[k] = otherBit(other[k], bit)
			wantVerified(t, root, 7, 5, entries[5], other, false)
		}
	}
}

func TestP7AnotherEntry(t *testing.T) {
	eachProof(func(root api.Digest, n, i int, entry string, path []api.Digest) {
		for k, other := range manyEntries(n) {
			wantVerified(t, root, n, i, other, path, k == i)
		}
		for _, other := range []string{entry + "\x00", "\x00" + entry, entry + "!", strings.Repeat("x", 1000)} {
			wantVerified(t, root, n, i, other, path, false)
		}
		if entry != "" {
			wantVerified(t, root, n, i, entry[1:], path, false)
			wantVerified(t, root, n, i, entry[:len(entry)-1], path, false)
		}
		wantVerified(t, api.Digest{}, n, i, entry, path, false)
		wantVerified(t, rootOf(manyEntries(n+1)), n, i, entry, path, false)
	})
}

// Two roots of the tree are no entry, though an entry may be as long as they are.
func TestP7TwoRootsAreNoEntry(t *testing.T) {
	left, right := leafSum("a"), leafSum("b")
	root := nodeSum(left, right)
	both := string(left[:]) + string(right[:])
	wantVerified(t, root, 2, 0, "a", []api.Digest{right}, true)
	wantVerified(t, root, 1, 0, both, nil, false)
	wantVerified(t, root, 1, 0, "\x01"+both, nil, false)
	wantVerified(t, api.Digest(sha256.Sum256([]byte("a"))), 1, 0, "a", nil, false)
}

// A path may be right at another size or place too, where the tree turns in the same way: the document decides.
func TestP7AnotherSizeOrPlace(t *testing.T) {
	for _, n := range []int{1, 2, 3, 4, 5, 7, 8, 9, 12, 16, 17} {
		entries := manyEntries(n)
		all, root := levels(entries), rootOf(entries)
		for i, entry := range entries {
			path := pathOf(all, i)
			for size := range 40 {
				for at := -1; at <= size; at++ {
					wantVerified(t, root, size, at, entry, path, accepted(root, size, at, entry, path))
				}
			}
		}
	}
	entries := manyEntries(5)
	root, path := rootOf(entries), pathOf(levels(entries), 0)
	for size, want := range []bool{5: true, 6: true, 7: true, 8: true, 9: false, 10: false} {
		wantVerified(t, root, size, 0, entries[0], path, want)
	}
}

func TestP7NumbersOutOfBounds(t *testing.T) {
	odd := []int{-1, -2, -64, -1 << 30, -1 << 31, -1 << 32, math.MinInt, math.MinInt + 1}
	great := []int{1<<30 + 1, 1<<30 + 2, 1 << 31, 1<<31 + 1, 1<<32 + 1, 1<<32 + 5, math.MaxInt - 1, math.MaxInt}
	eachProof(func(root api.Digest, n, i int, entry string, path []api.Digest) {
		for _, k := range append([]int{0}, odd...) {
			wantVerified(t, root, k, i, entry, path, false)
			wantVerified(t, root, k, k-1, entry, path, false)
			wantVerified(t, root, k, 0, entry, path, false)
		}
		for _, k := range odd {
			wantVerified(t, root, n, k, entry, path, false)
			wantVerified(t, root, n, i-n, entry, path, false)
		}
		for _, k := range great {
			wantVerified(t, root, k, i, entry, path, false)
			wantVerified(t, root, k, k-1, entry, path, false)
			wantVerified(t, root, n, k, entry, path, false)
			wantVerified(t, root, n, n+i, entry, path, false)
		}
	})
}

func TestP7SizesAtTheBound(t *testing.T) {
	r := rand.New(rand.NewSource(9))
	for _, n := range []int{1<<29 - 1, 1 << 29, 1<<29 + 1, 1<<30 - 2, 1<<30 - 1, 1 << 30} {
		for _, i := range []int{0, 1, 1<<28 - 1, 1 << 28, 1<<29 - 2, 1<<29 - 1, 1 << 29, n / 2, n - 2, n - 1} {
			if i >= n {
				continue
			}
			path := randomPath(r, lengthOf(n, i))
			root := led(n, i, "e", path)
			wantVerified(t, root, n, i, "e", path, true)
			wantVerified(t, otherBit(root, i), n, i, "e", path, false)
			wantVerified(t, root, n, i, "f", path, false)
			wantVerified(t, root, n, i, "e", path[1:], false)
			wantVerified(t, root, n, i, "e", append(slices.Clone(path), root), false)
			for _, size := range []int{n - 1, n + 1, n / 2, 2 * n} {
				wantVerified(t, root, size, i, "e", path, accepted(root, size, i, "e", path))
			}
			wantVerified(t, root, n, i^1, "e", path, accepted(root, n, i^1, "e", path))
		}
	}
	// Above the bound a path is refused that would be right if there were none.
	for _, n := range []int{1<<30 + 1, 1<<30 + 2, 1 << 31, 1<<31 + 1, 1 << 62, 1<<62 + 1, math.MaxInt - 1} {
		for _, i := range []int{0, 1, n / 2, n - 1} {
			path := randomPath(r, lengthOf(n, i))
			wantVerified(t, led(n, i, "e", path), n, i, "e", path, false)
		}
	}
}

func TestP7EntryOfAnyLength(t *testing.T) {
	r := rand.New(rand.NewSource(10))
	for _, length := range []int{0, 20, 21, 54, 55, 63, 64, 65, 255, 256, 5000, 1 << 20} {
		entry := randomText(r, length)
		for _, n := range []int{1, 2, 3, 1 << 30} {
			path := randomPath(r, lengthOf(n, n-1))
			root := led(n, n-1, entry, path)
			wantVerified(t, root, n, n-1, entry, path, true)
			wantVerified(t, root, n, n-1, entry+"\x00", path, false)
		}
	}
}

func TestP7RandomProofs(t *testing.T) {
	r := rand.New(rand.NewSource(11))
	for range 3000 {
		n := 1 + r.Intn(1<<(1+r.Intn(30)))
		i := r.Intn(n)
		entry := randomText(r, r.Intn(30))
		path := randomPath(r, lengthOf(n, i))
		root := led(n, i, entry, path)
		wantVerified(t, root, n, i, entry, path, true)
		size, at := n, i
		switch r.Intn(3) {
		case 0:
			size += r.Intn(9) - 4
		case 1:
			at += r.Intn(9) - 4
		case 2:
			size, at = 1+r.Intn(2*n), r.Intn(n)
		}
		wantVerified(t, root, size, at, entry, path, accepted(root, size, at, entry, path))
	}
}
