package record

import (
	"strings"

	"larder/api"
	"larder/pack"
)

// ReadHead gives the configuration that a record tells, whether it may be or
// not; false if the record is no head.
func ReadHead(r string) (api.Config, bool) {
	rest, isHead := strings.CutPrefix(r, opening)
	n, ok := readVarints(rest)
	if !isHead || !ok || len(n) != 4 {
		return api.Config{}, false
	}
	return api.Config{Min: n[0], Max: n[1], Bits: n[2], Room: n[3]}, true
}

// ReadChunk gives the chunk, of 1 to most bytes, that a record tells; false if
// it tells none, or not as Chunk does.
func ReadChunk(r string, most int) (string, bool) {
	chunk, ok := chunkOf(r)
	if !ok || len(chunk) < 1 || len(chunk) > most {
		return "", false
	}
	return chunk, Chunk(chunk) == r
}

// chunkOf gives the bytes that a record tells, plainly or packed, even if the
// other way were the right one.
func chunkOf(r string) (string, bool) {
	if r == "" {
		return "", false
	}
	switch told := r[1:]; r[0] {
	case plainChunk:
		return told, true
	case packedChunk:
		return pack.Unpack(told)
	}
	return "", false
}

// ReadStream gives the name and the numbers that a record tells, whatever they
// are; false if it tells no stream.
func ReadStream(r string) (string, []int, bool) {
	if len(r) < 2 || r[0] != stream {
		return "", nil, false
	}
	end := 2 + int(r[1])
	if end > len(r) {
		return "", nil, false
	}
	numbers, ok := readVarints(r[end:])
	return r[2:end], numbers, ok
}
