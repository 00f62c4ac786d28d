package sums

import "ferry/api"

const (
	blockSize  = 64 // bytes of a block
	lengthSize = 8  // bytes that tell a text's length
	rounds     = 64 // of a block
	blockWords = 16 // words of a block
)

// startWords: of the square roots of the first eight primes, the first 32 bits behind the point.
var startWords = [8]uint32{
	0x6a09e667, 0xbb67ae85, 0x3c6ef372, 0xa54ff53a, 0x510e527f, 0x9b05688c, 0x1f83d9ab, 0x5be0cd19,
}

// roundWords: the same of the cube roots of the first 64 primes.
var roundWords = [rounds]uint32{
	0x428a2f98, 0x71374491, 0xb5c0fbcf, 0xe9b5dba5, 0x3956c25b, 0x59f111f1, 0x923f82a4, 0xab1c5ed5,
	0xd807aa98, 0x12835b01, 0x243185be, 0x550c7dc3, 0x72be5d74, 0x80deb1fe, 0x9bdc06a7, 0xc19bf174,
	0xe49b69c1, 0xefbe4786, 0x0fc19dc6, 0x240ca1cc, 0x2de92c6f, 0x4a7484aa, 0x5cb0a9dc, 0x76f988da,
	0x983e5152, 0xa831c66d, 0xb00327c8, 0xbf597fc7, 0xc6e00bf3, 0xd5a79147, 0x06ca6351, 0x14292967,
	0x27b70a85, 0x2e1b2138, 0x4d2c6dfc, 0x53380d13, 0x650a7354, 0x766a0abb, 0x81c2c92e, 0x92722c85,
	0xa2bfe8a1, 0xa81a664b, 0xc24b8b70, 0xc76c51a3, 0xd192e819, 0xd6990624, 0xf40e3585, 0x106aa070,
	0x19a4c116, 0x1e376c08, 0x2748774c, 0x34b0bcb5, 0x391c0cb3, 0x4ed8aa4a, 0x5b9cca4f, 0x682e6ff3,
	0x748f82ee, 0x78a5636f, 0x84c87814, 0x8cc70208, 0x90befffa, 0xa4506ceb, 0xbef9a3f7, 0xc67178f2,
}

// Strong tells the strong sum of a text: SHA-256.
func Strong(text string) api.Digest {
	// The text's whole blocks are read where they stand: a long text is not copied for its padding.
	whole := len(text) - len(text)%blockSize
	state := addBlocks(startWords, text[:whole])
	last := padded(text[whole:], len(text))
	state = addBlocks(state, last)
	return digest(state)
}

// padded puts the padding of a text of so many bytes behind the rest of it that fills no block.
func padded(rest string, length int) string {
	blocks := []byte(rest)
	blocks = append(blocks, 128)
	for len(blocks)%blockSize != blockSize-lengthSize {
		blocks = append(blocks, 0)
	}
	bits := uint64(length) * 8
	for k := 0; k < lengthSize; k++ {
		blocks = append(blocks, byte(bits>>56))
		bits = bits << 8
	}
	return string(blocks)
}

// addBlocks takes the whole blocks of a text into the state, one behind the other.
func addBlocks(state [8]uint32, text string) [8]uint32 {
	for len(text) >= blockSize {
		words := schedule(text[:blockSize])
		state = addBlock(state, words)
		text = text[blockSize:]
	}
	return state
}

// schedule tells the words that the rounds of a block take in.
func schedule(block string) [rounds]uint32 {
	var words [rounds]uint32
	for k := 0; k < len(block) && k < blockSize; k++ {
		words[k/4] = words[k/4]<<8 | uint32(block[k])
	}
	for t := blockWords; t < rounds; t++ {
		x := words[t-15]
		y := words[t-2]
		s0 := turned(x, 7) ^ turned(x, 18) ^ x>>3
		s1 := turned(y, 17) ^ turned(y, 19) ^ y>>10
		words[t] = s1 + words[t-7] + s0 + words[t-16]
	}
	return words
}

// addBlock takes one block into the state, by the words of its schedule.
func addBlock(state [8]uint32, words [rounds]uint32) [8]uint32 {
	a, b, c, d := state[0], state[1], state[2], state[3]
	e, f, g, h := state[4], state[5], state[6], state[7]
	for t := 0; t < rounds; t++ {
		s0 := turned(a, 2) ^ turned(a, 13) ^ turned(a, 22)
		s1 := turned(e, 6) ^ turned(e, 11) ^ turned(e, 25)
		u := h + s1 + ((e & f) ^ (^e & g)) + roundWords[t] + words[t]
		v := s0 + ((a & b) ^ (a & c) ^ (b & c))
		h, g, f, e = g, f, e, d+u
		d, c, b, a = c, b, a, u+v
	}
	return [8]uint32{
		state[0] + a, state[1] + b, state[2] + c, state[3] + d,
		state[4] + e, state[5] + f, state[6] + g, state[7] + h,
	}
}

// turned turns a word right by so many bits.
func turned(word uint32, by uint32) uint32 {
	return word>>by | word<<(32-by)
}

// digest writes the state out in bytes, the highest of each word first.
func digest(state [8]uint32) api.Digest {
	var sum api.Digest
	for k := 0; k < len(state); k++ {
		sum[4*k] = byte(state[k] >> 24)
		sum[4*k+1] = byte(state[k] >> 16)
		sum[4*k+2] = byte(state[k] >> 8)
		sum[4*k+3] = byte(state[k])
	}
	return sum
}
