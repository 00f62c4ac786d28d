package ferry_test

import (
	"bytes"
	"crypto/sha256"
	"encoding/hex"
	"hash/fnv"
	"math/rand"
	"strings"
	"testing"

	"ferry/api"
	"ferry/ferry"
)

// weak: the weak sum, told by the library.
func weak(text string) uint16 {
	h := fnv.New32a()
	h.Write([]byte(text))
	sum := h.Sum32()
	return uint16(sum>>16) ^ uint16(sum)
}

// randomText: n bytes of every kind, bytes 0 and above 127 among them.
func randomText(r *rand.Rand, n int) string {
	text := make([]byte, n)
	r.Read(text)
	return string(text)
}

func TestP3OldSumExamples(t *testing.T) {
	for text, want := range map[string]uint16{"": 0x1cd9, "\x00": 0x5813, "\x00\x00": 0x86bb, "a": 0xcd20, "\x00\x00a": 0xea74} {
		if sum := ferry.OldSum(text); sum != want {
			t.Errorf("OldSum(%q) = %04x, want %04x", text, sum, want)
		}
	}
}

func TestP3OldSumOfEveryByteAndLength(t *testing.T) {
	r := rand.New(rand.NewSource(1))
	var texts []string
	for b := range 256 {
		texts = append(texts, string([]byte{byte(b)}), string([]byte{byte(b), byte(255 - b)}))
	}
	for n := range 300 {
		texts = append(texts, randomText(r, n))
	}
	texts = append(texts, randomText(r, 1<<20), "ä€\xff\xfe")
	for _, text := range texts {
		if sum, want := ferry.OldSum(text), weak(text); sum != want {
			t.Errorf("OldSum(%.30q), %d bytes, = %04x, want %04x", text, len(text), sum, want)
		}
	}
}

func TestP3NewSumExamples(t *testing.T) {
	for text, want := range map[string]string{
		"":                           "e3b0c44298fc1c149afbf4c8996fb92427ae41e4649b934ca495991b7852b855",
		"abc":                        "ba7816bf8f01cfea414140de5dae2223b00361a396177a9cb410ff61f20015ad",
		strings.Repeat("a", 1000000): "cdc76e5c9914fb9281a1c7e284d73e67f1809a48a497200e046d39ccc7112cd0",
	} {
		sum := ferry.NewSum(text)
		if hex.EncodeToString(sum[:]) != want {
			t.Errorf("NewSum(%.30q), %d bytes, = %x, want %s", text, len(text), sum, want)
		}
	}
}

// The lengths around 55, 63, 119 and 127 are those where the padding just fits a block, and where it does not.
func TestP3NewSumOfEveryLength(t *testing.T) {
	r := rand.New(rand.NewSource(2))
	for n := range 520 {
		for _, text := range []string{strings.Repeat("\x00", n), strings.Repeat("\xff", n), randomText(r, n)} {
			if sum, want := ferry.NewSum(text), sha256.Sum256([]byte(text)); sum != api.Digest(want) {
				t.Errorf("NewSum of %d bytes %.10q = %x, want %x", n, text, sum, want)
			}
		}
	}
}

func TestP3NewSumOfLongTexts(t *testing.T) {
	long := bytes.Repeat([]byte("0123456789abcde"), 250000)
	for _, n := range []int{8191, 8192, 65536, 2097151, 2097152, len(long)} {
		if sum, want := ferry.NewSum(string(long[:n])), sha256.Sum256(long[:n]); sum != api.Digest(want) {
			t.Errorf("NewSum of %d bytes = %x, want %x", n, sum, want)
		}
	}
}
