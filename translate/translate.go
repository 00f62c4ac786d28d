// Package translate: what a proof that an entry stands in an old log is worth for the new one.
package translate

import (
	"ferry/api"
	"ferry/chain"
	"ferry/sums"
	"ferry/tree"
)

// Proof turns a proof that the old log accepts for an entry into the path of entry i; if that is another entry,
// into two texts with the same weak sum.
func Proof(old string, i int, entry string, p api.OldProof) (api.Carried, api.Errno) {
	entries, fault, _ := chain.Read(old)
	if fault != api.OK {
		return api.Carried{}, fault
	}
	if i < 0 || i >= len(entries) {
		return api.Carried{}, api.ErrIndex
	}
	head := chain.LastLink(0, entries)
	if !chain.Verify(head, len(entries), i, entry, p) {
		return api.Carried{}, api.ErrProof
	}
	if entry != entries[i] {
		return collision(entries, i, entry, p), api.ErrCollision
	}
	path, fault := tree.Prove(entries, i)
	return api.Carried{Proof: path}, fault
}

// collision tells where a proof that a log accepts for another entry than its entry i meets the log.
//
// The texts of place i are different, because the entries are. As long as their sums are, too, so are the texts
// of the next place, because they begin with these sums. And at the last place both sums are the log's head. So
// the first place where the sums are the same is one where the texts are different, and there is one.
func collision(entries []string, i int, entry string, p api.OldProof) api.Carried {
	ahead := chain.LastLink(0, entries[:i])
	rest := entries[i+1:]
	left := chain.Linked(p.Before, entry)
	right := chain.Linked(ahead, entries[i])
	for k := 0; k < len(rest) && k < len(p.Rest); k++ {
		leftLink := sums.Weak(left)
		rightLink := sums.Weak(right)
		if leftLink == rightLink {
			break
		}
		left = chain.Linked(leftLink, p.Rest[k])
		right = chain.Linked(rightLink, rest[k])
	}
	return api.Carried{Left: left, Right: right}
}
