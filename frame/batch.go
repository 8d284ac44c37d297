package frame

import (
	"bytes"

	"marigraph/api"
	"marigraph/octet"
)

// The sizes of the numbers in a batch.
const (
	countSize = 2
	kindSize  = 1
	keySize   = 1
	valueSize = 2
)

// The kinds of an entry.
const (
	kindGone = iota
	kindThere
)

// Batch lays the entries down as the bytes of one record.
func Batch(l ...api.Entry) ([]byte, api.Errno) {
	if len(l) > api.MaxOps {
		return nil, api.ErrLong
	}
	for _, e := range l {
		if !fits(e) {
			return nil, api.ErrLong
		}
	}
	out := addNumber(nil, len(l), countSize)
	for _, e := range l {
		out = addEntry(out, e)
	}
	return out, api.OK
}

// Entries reads what Batch gave, and nothing else.
func Entries(b []byte) (l []api.Entry, why api.Errno) {
	defer func() {
		if recover() != nil {
			l, why = nil, api.ErrForm
		}
	}()
	r := &reader{rest: b}
	for range r.number(countSize, 0, api.MaxOps) {
		l = append(l, r.entry())
	}
	r.end()
	return l, api.OK
}

// fits tells whether e is within the limits. The Value of one that is Gone is never laid down, so it may be of any length.
func fits(e api.Entry) bool {
	return len(e.Key) >= 1 && len(e.Key) <= api.MaxKey && (e.Gone || len(e.Value) <= api.MaxValue)
}

// addEntry lays e behind out, which it may grow in place: only memory of Batch's own is handed to it.
func addEntry(out []byte, e api.Entry) []byte {
	kind := kindThere
	if e.Gone {
		kind = kindGone
	}
	out = addNumber(out, kind, kindSize)
	out = addNumber(out, len(e.Key), keySize)
	out = append(out, e.Key...)
	if e.Gone {
		return out
	}
	out = addNumber(out, len(e.Value), valueSize)
	return append(out, e.Value...)
}

// addNumber lays n behind out. octet.Put would copy all that is there for each number, so it lays n down by itself.
func addNumber(out []byte, n, size int) []byte {
	return append(out, octet.Put(nil, uint64(n), size)...)
}

// reader goes through the bytes of a batch. Its methods panic where bytes lack, or are not what Batch gives: Entries recovers, so none of them asks after each step.
type reader struct {
	rest []byte
}

// number reads one of so many bytes that is least to most.
func (r *reader) number(size, least, most int) int {
	n, there := octet.Get(r.rest, size)
	if !there || int(n) < least || int(n) > most {
		panic(api.ErrForm)
	}
	r.rest = r.rest[size:]
	return int(n)
}

// text reads so many bytes, as a copy.
func (r *reader) text(length int) []byte {
	if length > len(r.rest) {
		panic(api.ErrForm)
	}
	out := bytes.Clone(r.rest[:length])
	r.rest = r.rest[length:]
	return out
}

func (r *reader) entry() api.Entry {
	kind := r.number(kindSize, kindGone, kindThere)
	key := r.text(r.number(keySize, 1, api.MaxKey))
	if kind == kindGone {
		return api.Entry{Key: key, Gone: true}
	}
	return api.Entry{Key: key, Value: r.text(r.number(valueSize, 0, api.MaxValue))}
}

// end panics where bytes are left.
func (r *reader) end() {
	if len(r.rest) > 0 {
		panic(api.ErrForm)
	}
}
