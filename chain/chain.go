// Package chain: logs whose entries are chained by links, the text of an old log, and proofs by links.
package chain

import (
	"ferry/api"
	"ferry/sums"
)

// frameExtra: the bytes of a frame beside its entry: one for the length, two for the link.
const frameExtra = 3

// Check tells what keeps a list of entries from being a log.
func Check(entries []string) api.Errno {
	if len(entries) > api.MaxEntries {
		return api.ErrMany
	}
	for _, entry := range entries {
		if len(entry) > api.MaxEntry {
			return api.ErrLong
		}
	}
	return api.OK
}

// CheckEntry tells what keeps a list of entries from being a log that has an entry i.
func CheckEntry(entries []string, i int) api.Errno {
	fault := Check(entries)
	if fault != api.OK {
		return fault
	}
	if i < 0 || i >= len(entries) {
		return api.ErrIndex
	}
	return api.OK
}

// Link tells the link of an entry, by the link of the one ahead of it.
func Link(ahead uint16, entry string) uint16 {
	text := Linked(ahead, entry)
	return sums.Weak(text)
}

// Linked tells the text whose weak sum is the link of an entry.
func Linked(ahead uint16, entry string) string {
	return twoBytes(ahead) + entry
}

// LastLink tells the link of the last of some entries, by the link ahead of the first; that one, if there is none.
func LastLink(ahead uint16, entries []string) uint16 {
	link := ahead
	for _, entry := range entries {
		link = Link(link, entry)
	}
	return link
}

// twoBytes writes a link out, the higher byte first.
func twoBytes(link uint16) string {
	return string([]byte{byte(link >> 8), byte(link)})
}

// Write writes the old log of some entries.
func Write(entries []string) (string, api.Errno) {
	fault := Check(entries)
	if fault != api.OK {
		return "", fault
	}
	var old []byte
	link := uint16(0)
	for _, entry := range entries {
		link = Link(link, entry)
		old = append(old, byte(len(entry)))
		old = append(old, entry...)
		old = append(old, twoBytes(link)...)
	}
	return string(old), api.OK
}

// Read reads an old log up to its end or its first bad frame, and tells that frame's number.
func Read(old string) ([]string, api.Errno, int) {
	if len(old) > api.MaxOld {
		return nil, api.ErrLong, 0
	}
	var entries []string
	link := uint16(0)
	for len(old) > 0 {
		if len(entries) == api.MaxEntries {
			return entries, api.ErrFrame, len(entries)
		}
		entry, next, fault := readFrame(old, link)
		if fault != api.OK {
			return entries, fault, len(entries)
		}
		entries = append(entries, entry)
		link = next
		old = old[frameExtra+len(entry):]
	}
	return entries, api.OK, 0
}

// readFrame tells the entry and the link of the frame at the beginning of a text, by the link ahead of it.
func readFrame(text string, ahead uint16) (string, uint16, api.Errno) {
	if len(text) < frameExtra {
		return "", 0, api.ErrFrame
	}
	size := int(text[0])
	if size > api.MaxEntry || len(text) < frameExtra+size {
		return "", 0, api.ErrFrame
	}
	entry := text[1 : 1+size]
	link := Link(ahead, entry)
	if text[1+size:frameExtra+size] != twoBytes(link) {
		return "", 0, api.ErrLink
	}
	return entry, link, api.OK
}
