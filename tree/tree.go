// Package tree: a log as a tree of strong sums: its root, the paths of its entries, and what a path proves.
package tree

import (
	"ferry/api"
	"ferry/chain"
	"ferry/sums"
)

// Root tells the root of a log.
func Root(entries []string) (api.Digest, api.Errno) {
	fault := chain.Check(entries)
	if fault != api.OK {
		return api.Digest{}, fault
	}
	return rootOf(entries), api.OK
}

// Prove tells the path of entry i of a log.
func Prove(entries []string, i int) ([]api.Digest, api.Errno) {
	fault := chain.CheckEntry(entries, i)
	if fault != api.OK {
		return nil, fault
	}
	return pathOf(entries, i), api.OK
}

// Verify tells whether a path proves that an entry is entry i of the log of n entries with this root.
func Verify(root api.Digest, n int, i int, entry string, path []api.Digest) bool {
	if n < 1 || n > api.MaxSize || i < 0 || i >= n {
		return false
	}
	if len(path) != pathLength(n, i) {
		return false
	}
	sum := climb(leaf(entry), n, i, path)
	return sum == root
}

// rootOf tells the root of entries that are known to be a log.
func rootOf(entries []string) api.Digest {
	if len(entries) == 0 {
		return sums.Strong("")
	}
	if len(entries) == 1 {
		return leaf(entries[0])
	}
	m := firstPart(len(entries))
	left := rootOf(entries[:m])
	right := rootOf(entries[m:])
	return node(left, right)
}

// pathOf tells the path of entry i of entries that are known to be a log, and to have one.
func pathOf(entries []string, i int) []api.Digest {
	if len(entries) <= 1 {
		return nil
	}
	m := firstPart(len(entries))
	if i < m {
		path := pathOf(entries[:m], i)
		other := rootOf(entries[m:])
		return append(path, other)
	}
	path := pathOf(entries[m:], i-m)
	other := rootOf(entries[:m])
	return append(path, other)
}

// pathLength tells how many roots the path of entry i of n has.
func pathLength(n int, i int) int {
	length := 0
	for n > 1 {
		m := firstPart(n)
		if i < m {
			n = m
		} else {
			n = n - m
			i = i - m
		}
		length++
	}
	return length
}

// climb tells the root to which a path of the right length leads from the sum of entry i of n.
func climb(sum api.Digest, n int, i int, path []api.Digest) api.Digest {
	if n <= 1 || len(path) == 0 {
		return sum
	}
	// The path's last root is that of the part in which the entry is not.
	other := path[len(path)-1]
	path = path[:len(path)-1]
	m := firstPart(n)
	if i < m {
		left := climb(sum, m, i, path)
		return node(left, other)
	}
	right := climb(sum, n-m, i-m, path)
	return node(other, right)
}

// firstPart tells the greatest power of two below n, which is at least 2: so many entries are the tree's first part.
func firstPart(n int) int {
	m := 1
	for m < n-m {
		m = m * 2
	}
	return m
}

// leaf and node begin with different bytes, so that no entry is taken for two roots.
func leaf(entry string) api.Digest { return sums.Strong("\x00" + entry) }

func node(left api.Digest, right api.Digest) api.Digest {
	return sums.Strong("\x01" + string(left[:]) + string(right[:]))
}
