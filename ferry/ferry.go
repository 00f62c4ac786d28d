// Package ferry: an old chained log, carried over into a tree log on a disk that may crash: see DOC.md.
package ferry

import (
	"ferry/api"
	"ferry/carry"
	"ferry/chain"
	"ferry/sums"
	"ferry/translate"
	"ferry/tree"
)

// OldSum tells the weak sum of a text (P3).
func OldSum(text string) uint16 { return sums.Weak(text) }

// NewSum tells the strong sum of a text (P3).
func NewSum(text string) api.Digest { return sums.Strong(text) }

// WriteOld writes an old log (P4).
func WriteOld(entries []string) (string, api.Errno) { return chain.Write(entries) }

// ReadOld reads an old log (P5).
func ReadOld(old string) ([]string, api.Errno, int) { return chain.Read(old) }

// Root tells the root of a log (P6).
func Root(entries []string) (api.Digest, api.Errno) { return tree.Root(entries) }

// Prove tells the path of an entry (P6).
func Prove(entries []string, i int) ([]api.Digest, api.Errno) { return tree.Prove(entries, i) }

// Verify tells whether a path proves an entry (P7).
func Verify(root api.Digest, n int, i int, entry string, path []api.Digest) bool {
	return tree.Verify(root, n, i, entry, path)
}

// Format makes a disk (P8).
func Format(sectors int) ([]api.Sector, api.Errno) { return carry.Format(sectors) }

// Status tells how many entries were carried over to a disk, and their root (P9).
func Status(disk []api.Sector) (int, api.Digest, api.Errno) { return carry.Status(disk) }

// Entries tells which (P9).
func Entries(disk []api.Sector) ([]string, api.Errno) { return carry.Entries(disk) }

// Step plans how a batch is carried over (P10).
func Step(old string, disk []api.Sector, batch int) ([]api.Write, api.Errno, int) {
	return carry.Step(old, disk, batch)
}

// OldProve proves that an entry stands in an old log (P11).
func OldProve(entries []string, i int) (api.OldProof, api.Errno) { return chain.Prove(entries, i) }

// OldVerify tells whether such a proof holds (P11).
func OldVerify(head uint16, n int, i int, entry string, p api.OldProof) bool {
	return chain.Verify(head, n, i, entry, p)
}

// Translate turns such a proof into a path (P12).
func Translate(old string, i int, entry string, p api.OldProof) (api.Carried, api.Errno) {
	return translate.Proof(old, i, entry, p)
}
