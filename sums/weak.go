// Package sums: the weak sum that chains an old log, and the strong sum of the tree log.
package sums

const (
	weakStart  = 2166136261
	weakFactor = 16777619
)

// Weak tells the weak sum of a text.
func Weak(text string) uint16 {
	sum := uint32(weakStart)
	for k := 0; k < len(text); k++ {
		sum = (sum ^ uint32(text[k])) * weakFactor
	}
	return uint16(sum>>16) ^ uint16(sum)
}
