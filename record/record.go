// Package record writes and reads what the frames of a store hold: the head,
// chunks and streams.
package record

import (
	"larder/api"
	"larder/pack"
)

const opening = "LARDER"

// The first byte of a record that is not the head.
const (
	plainChunk byte = iota
	packedChunk
	stream
)

// Head tells a configuration.
func Head(c api.Config) string {
	out := []byte(opening)
	for _, n := range [...]int{c.Min, c.Max, c.Bits, c.Room} {
		out = appendVarint(out, n)
	}
	return string(out)
}

// Chunk tells a chunk, packed if that is shorter.
func Chunk(chunk string) string {
	if packed := pack.Pack(chunk); len(packed) < len(chunk) {
		return tell(packedChunk, packed)
	}
	return tell(plainChunk, chunk)
}

func tell(kind byte, s string) string {
	return string(append([]byte{kind}, s...))
}

// Stream tells a stream's name and the numbers of its chunks.
func Stream(name string, numbers []int) string {
	out := []byte{stream, byte(len(name))}
	out = append(out, name...)
	for _, n := range numbers {
		out = appendVarint(out, n)
	}
	return string(out)
}
