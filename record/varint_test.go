package record

import (
	"slices"
	"testing"
)

func TestVarint(t *testing.T) {
	for n, want := range map[int]string{
		0:       "\x00",
		1:       "\x01",
		127:     "\x7f",
		128:     "\x80\x01",
		255:     "\xff\x01",
		1000:    "\xe8\x07",
		16383:   "\xff\x7f",
		16384:   "\x80\x80\x01",
		60000:   "\xe0\xd4\x03",
		2097151: "\xff\xff\x7f",
	} {
		if got := string(appendVarint([]byte("ahead"), n)); got != "ahead"+want {
			t.Errorf("%d: %x, want %x", n, got, want)
		}
	}
}

func TestReadVarint(t *testing.T) {
	for _, n := range []int{0, 1, 127, 128, 255, 1000, 16383, 16384, 60000, 2097151, 2097152, 1<<28 - 1} {
		v := string(appendVarint(nil, n))
		if got, used := readVarint(v + "\x00more"); got != n || used != len(v) {
			t.Errorf("%d: %d, %d bytes of %x", n, got, used, v)
		}
	}
	for _, s := range []string{
		"", "\x80", "\xff", "\xff\xff", "\xff\xff\xff\xff", // no end
		"\x80\x00", "\xff\x00", "\x80\x80\x00", "\x81\x80\x80\x00", // could be told shorter
		"\x80\x80\x80\x80\x01", "\x80\x80\x80\x80\x80\x80\x80\x80\x80\x02", // too great
	} {
		if n, used := readVarint(s); n != 0 || used != 0 {
			t.Errorf("%x: %d, %d bytes", s, n, used)
		}
	}
}

func TestReadVarints(t *testing.T) {
	if got, ok := readVarints("\x00\x80\x01\x7f\x00"); !ok || !slices.Equal(got, []int{0, 128, 127, 0}) {
		t.Errorf("%v, %t", got, ok)
	}
	if got, ok := readVarints(""); !ok || len(got) != 0 {
		t.Errorf("%v, %t", got, ok)
	}
	for _, s := range []string{"\x00\x80", "\x80\x00\x01", "\x01\x80\x00", "\x01\xff\xff\xff\xff\x01"} {
		if got, ok := readVarints(s); ok || len(got) != 0 {
			t.Errorf("%x: %v, %t", s, got, ok)
		}
	}
}
