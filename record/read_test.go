package record

import (
	"slices"
	"strings"
	"testing"

	"larder/api"
)

func TestReadHead(t *testing.T) {
	for _, c := range []api.Config{{}, {Min: 16, Max: 20, Bits: 1, Room: 1000}, {Min: 200, Max: 128, Bits: 127, Room: 60000}} {
		if got, ok := ReadHead(Head(c)); got != c || !ok {
			t.Errorf("%+v: %+v, %t", c, got, ok)
		}
	}
	for _, r := range []string{
		"", "LARDE", "LARDER", "\x10\x14\x01\x64", "larder\x10\x14\x01\x64", "LARDER\x10\x14\x01", "LARDER\x10\x14\x01\x64\x00", "LARDER\x90\x00\x14\x01\x64",
	} {
		if got, ok := ReadHead(r); got != (api.Config{}) || ok {
			t.Errorf("%q: %+v, %t", r, got, ok)
		}
	}
}

func TestReadChunk(t *testing.T) {
	for _, chunk := range []string{"a", "abc", "aaaa", "aaaaa", strings.Repeat("ab", 10)} {
		if got, ok := ReadChunk(Chunk(chunk), len(chunk)); got != chunk || !ok {
			t.Errorf("%q: %q, %t", chunk, got, ok)
		}
		if got, ok := ReadChunk(Chunk(chunk), len(chunk)-1); got != "" || ok {
			t.Errorf("%q, too long: %q, %t", chunk, got, ok)
		}
	}
	for _, r := range []string{"", "\x00", "\x01", "\x02", "\x03abc", "\x00aaaaa", "\x01\x00a\x80\x01", "\x01\x02abc", "\x01\x81\x01", "\x02\x01a"} {
		if _, ok := ReadChunk(r, 100); ok {
			t.Errorf("%q tells a chunk", r)
		}
	}
}

func TestReadStream(t *testing.T) {
	long := strings.Repeat("n", 255)
	for name, numbers := range map[string][]int{"": {}, "a": {}, "b": {0}, "abc": {7, 128, 0}, long: {1}} {
		if gotName, gotNumbers, ok := ReadStream(Stream(name, numbers)); gotName != name || !slices.Equal(gotNumbers, numbers) || !ok {
			t.Errorf("%q, %v: %q, %v, %t", name, numbers, gotName, gotNumbers, ok)
		}
	}
	for _, r := range []string{"", "\x02", "\x02\x01", "\x02\x03ab", "\x02\x01a\x80", "\x02\x01a\x80\x00", "\x00\x01a", "\x01\x01a", "\x03\x01a"} {
		if _, _, ok := ReadStream(r); ok {
			t.Errorf("%q tells a stream", r)
		}
	}
}
