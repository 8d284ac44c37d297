package block

import (
	"bytes"
	"slices"

	"marigraph/api"
	"marigraph/octet"
)

// reader goes through the bytes of a block. Its methods panic where bytes lack: All recovers, so none of them asks after each step.
type reader struct {
	rest []byte
}

// readEntries reads the entries of b. It ends where there are more of them than a block has: each may stand for far more bytes than it takes.
func readEntries(b []byte) []api.Entry {
	entries, _ := parts(b)
	r := &reader{rest: entries}
	var l []api.Entry
	var ahead []byte
	for len(r.rest) > 0 {
		if len(l) == maxEntries {
			panic(api.ErrForm)
		}
		if len(l)%api.Restart == 0 {
			ahead = nil
		}
		e := r.entry(ahead)
		l = append(l, e)
		ahead = e.Key
	}
	return l
}

// readStarts reads where the entries with whole Keys begin, as b tells it.
func readStarts(b []byte) []int {
	_, starts := parts(b)
	r := &reader{rest: starts}
	var l []int
	for len(r.rest) > 0 {
		l = append(l, r.number(startSize))
	}
	return l
}

// parts answers the bytes of b's entries, and those that tell where some of them begin. How many these are stands at the end alone.
func parts(b []byte) (entries, starts []byte) {
	end := len(b) - countSize
	if end < 0 {
		panic(api.ErrForm)
	}
	count := (&reader{rest: b[end:]}).number(countSize)
	begin := end - count*startSize
	if begin < 0 {
		panic(api.ErrForm)
	}
	return b[:begin], b[begin:end]
}

// number reads one of so many bytes.
func (r *reader) number(size int) int {
	n, there := octet.Get(r.rest, size)
	if !there {
		panic(api.ErrForm)
	}
	r.rest = r.rest[size:]
	return int(n)
}

// text reads so many bytes, where they lie. The lengths are held against each other because a slice may be cut beyond its length.
func (r *reader) text(length int) []byte {
	if length > len(r.rest) {
		panic(api.ErrForm)
	}
	out := r.rest[:length]
	r.rest = r.rest[length:]
	return out
}

// entry reads one whose Key begins as the one ahead does.
func (r *reader) entry(ahead []byte) api.Entry {
	shared := r.number(sharedSize)
	if shared > len(ahead) {
		panic(api.ErrForm)
	}
	key := slices.Concat(ahead[:shared], r.text(r.number(moreSize)))
	if r.number(kindSize) == kindGone {
		return api.Entry{Key: key, Gone: true}
	}
	return api.Entry{Key: key, Value: bytes.Clone(r.text(r.number(valueSize)))}
}
