package sums

import (
	"strings"
	"testing"
)

// Lengths whose bits need more than 32 bits are tried on the padding alone: such texts are too long for a test.
func TestP3PaddingTellsLongLengths(t *testing.T) {
	for _, c := range []struct {
		length int
		want   string
	}{
		{1 << 20, "\x00\x00\x00\x00\x00\x80\x00\x00"},
		{1 << 29, "\x00\x00\x00\x01\x00\x00\x00\x00"},
		{0x0123456789abcd, "\x00\x09\x1a\x2b\x3c\x4d\x5e\x68"},
	} {
		text := padded("", c.length)
		if want := "\x80" + strings.Repeat("\x00", 55) + c.want; text != want {
			t.Errorf("the padding of %d bytes is %x, want %x", c.length, text, want)
		}
	}
}

func TestP3PaddingFillsTheFewestBlocks(t *testing.T) {
	for n := range blockSize {
		want := 64
		if n > 55 {
			want = 128
		}
		rest := strings.Repeat("x", n)
		if text := padded(rest, n); len(text) != want || !strings.HasPrefix(text, rest+"\x80") {
			t.Errorf("a rest of %d bytes is padded to %d bytes, want %d: %x", n, len(text), want, text)
		}
	}
}
