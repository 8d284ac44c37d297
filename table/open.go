package table

import (
	"bytes"

	"marigraph/api"
	"marigraph/octet"
)

// Open reads what Build gave, and nothing else. Each block is read once, so that a fault is known here and no later call meets it.
func Open(b []byte) (*Table, api.Errno) {
	texts, ok := cut(bytes.Clone(b))
	if !ok {
		return nil, api.ErrForm
	}
	t := &Table{}
	for _, text := range texts {
		if !t.add(text) {
			return nil, api.ErrForm
		}
	}
	return t, api.OK
}

// cut answers the texts of b's blocks, one at least, where they lie; false, if their lengths are not those that b tells.
func cut(b []byte) ([][]byte, bool) {
	blocks, lengths, ok := parts(b)
	if !ok {
		return nil, false
	}
	var texts [][]byte
	for len(lengths) > 0 {
		n, _ := octet.Get(lengths, lengthSize)
		if n > uint64(len(blocks)) {
			return nil, false
		}
		texts = append(texts, blocks[:n])
		blocks, lengths = blocks[n:], lengths[lengthSize:]
	}
	return texts, len(blocks) == 0
}

// parts answers the bytes of b's blocks, and those of their lengths. Where the index begins stands behind it, so b is read from its end.
func parts(b []byte) (blocks, lengths []byte, ok bool) {
	footer := len(b) - placeSize - len(mark)
	if footer < 0 || string(b[footer+placeSize:]) != mark {
		return nil, nil, false
	}
	begin, _ := octet.Get(b[footer:], placeSize)
	if begin > uint64(footer) {
		return nil, nil, false
	}
	index := b[begin:footer]
	count, _ := octet.Get(index, countSize)
	if count < 1 || len(index) != countSize+int(count)*lengthSize {
		return nil, nil, false
	}
	return b[:begin], index[countSize:], true
}

// add puts a block behind the others; false, if Build would not lay it there. A number of entries that PerBlock does not part tells that a block with fewer stands ahead: that one must be the last.
func (t *Table) add(text []byte) bool {
	p := packed{text: text}
	l := p.entries()
	if len(l) < 1 || len(l) > api.PerBlock || t.count%api.PerBlock > 0 || t.count+len(l) > maxEntries {
		return false
	}
	if !octet.Less(t.last(), l[0].Key) {
		return false
	}
	p.last = l[len(l)-1].Key
	t.blocks = append(t.blocks, p)
	t.count += len(l)
	return true
}
