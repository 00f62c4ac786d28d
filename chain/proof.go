package chain

import "ferry/api"

// Prove tells the proof that entry i stands in a log.
func Prove(entries []string, i int) (api.OldProof, api.Errno) {
	fault := CheckEntry(entries, i)
	if fault != api.OK {
		return api.OldProof{}, fault
	}
	// The proof is its owner's, who may write into it: it holds a list of its own.
	rest := make([]string, len(entries)-1-i)
	copy(rest, entries[i+1:])
	return api.OldProof{Before: LastLink(0, entries[:i]), Rest: rest}, api.OK
}

// Verify tells whether a proof leads from entry i of n to the head of their log.
func Verify(head uint16, n int, i int, entry string, p api.OldProof) bool {
	// Once i is known to be one of the n, n-1-i is a number that there is.
	if i < 0 || i >= n || len(p.Rest) != n-1-i {
		return false
	}
	link := Link(p.Before, entry)
	return LastLink(link, p.Rest) == head
}
