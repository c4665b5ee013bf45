package record

import "testing"

func TestVarint(t *testing.T) {
	for n, want := range map[int]string{
		0:       "\x00",
		1:       "\x01",
		127:     "\x7f",
		128:     "\x80\x01",
		255:     "\xff\x01",
		1000:    "\xe8\x07",
		16383:   "\xff\x7f",
		16384:   "\x80\x80\x01",
		60000:   "\xe0\xd4\x03",
		2097151: "\xff\xff\x7f",
	} {
		if got := string(appendVarint([]byte("ahead"), n)); got != "ahead"+want {
			t.Errorf("%d: %x, want %x", n, got, want)
		}
	}
}
