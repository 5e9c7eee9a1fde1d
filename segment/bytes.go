package segment

import (
	"bytes"
	"iter"
	"slices"

	"icehouse/api"
	"icehouse/chunk"
	"icehouse/codec"
	"icehouse/join"
	"icehouse/record"
)

// Kinds of a segment's frames, as they stand.
const (
	chunkKind = 2
	indexKind = 3
	endKind   = 4
)

// Encode: the entries as bytes.
func Encode(l []api.Entry) ([]byte, api.Errno) {
	wrong := func(x api.Entry) bool { return !record.Right(x) }
	if len(l) == 0 || slices.ContainsFunc(l, wrong) {
		return nil, api.ErrArg
	}
	return encoded(chunk.Group(l))
}

// encoded: the bytes of chunks that Group made. So what stands against any of
// their parts is just that there is too much.
func encoded(chunks []chunk.Chunk) ([]byte, api.Errno) {
	var all join.Bytes
	rows := 0
	for _, c := range chunks {
		all.Add(framed(chunkKind)(chunk.Put(c)))
		rows += len(c.Rows)
	}
	all.Add(framed(indexKind)(indexOf(chunks).bytes()))
	ahead, _ := all.Done()
	all.Add(framed(endKind)(end(len(chunks), rows, ahead)))
	b, e := all.Done()
	if e != api.OK || len(b) > api.MaxBytes {
		return nil, api.ErrSize
	}
	return b, api.OK
}

// framed: makes a frame of that kind of what a call that writes hands on.
func framed(kind int) func(b []byte, e api.Errno) ([]byte, api.Errno) {
	return func(b []byte, e api.Errno) ([]byte, api.Errno) {
		if e != api.OK {
			return nil, e
		}
		return codec.Frame(kind, b)
	}
}

// end: what is in the last frame, behind these bytes.
func end(chunks, rows int, ahead []byte) ([]byte, api.Errno) {
	var all join.Bytes
	for _, n := range []int{chunks, rows, int(codec.Sum(ahead))} {
		all.Add(codec.Number(n))
	}
	return all.Done()
}

// frames: of the frames at b's beginning the kind, and what is in each.
func frames(b []byte) iter.Seq2[int, []byte] {
	return func(yield func(kind int, in []byte) bool) {
		for {
			kind, in, n, e := codec.Unframe(b)
			if e != api.OK || !yield(kind, in) {
				return
			}
			b = b[n:]
		}
	}
}

// Decode: the segment that b is the bytes of. All that stands behind the chunks
// follows from them: so b is right if it is what is written for them again.
func Decode(b []byte) (*Segment, api.Errno) {
	// What is too long is not looked into at all.
	if len(b) > api.MaxBytes {
		return nil, api.ErrForm
	}
	chunks := chunksOf(b)
	var l []api.Entry
	for _, c := range chunks {
		l = append(l, chunk.Between(c, 0, api.MaxTime)...)
	}
	if again, e := Encode(l); e != api.OK || !bytes.Equal(again, b) {
		return nil, api.ErrForm
	}
	return newSegment(chunks, len(b)), api.OK
}

// chunksOf: the chunks at b's beginning, up to what is none.
func chunksOf(b []byte) []chunk.Chunk {
	var chunks []chunk.Chunk
	for kind, in := range frames(b) {
		if kind != chunkKind {
			break
		}
		c, e := chunk.Get(in)
		if e != api.OK {
			break
		}
		chunks = append(chunks, c)
	}
	return chunks
}
