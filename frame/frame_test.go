package frame

import (
	"hash/crc32"
	"strings"
	"testing"
)

func TestSum(t *testing.T) {
	for s, want := range map[string]Sum{
		"":          {},
		"\x00":      {0x8d, 0xef, 0x02, 0xd2},
		"123456789": {0x26, 0x39, 0xf4, 0xcb},
	} {
		if got := SumOf(s); got != want {
			t.Errorf("%q: %x, want %x", s, got, want)
		}
	}
}

func TestSumOfManyBytes(t *testing.T) {
	s := ""
	for i := range 600 {
		c := crc32.ChecksumIEEE([]byte(s))
		if want := (Sum{byte(c), byte(c >> 8), byte(c >> 16), byte(c >> 24)}); SumOf(s) != want {
			t.Fatalf("%d bytes: %x, want %x", i, SumOf(s), want)
		}
		s += string([]byte{byte(i * i / 3)})
	}
}

func TestFrameLength(t *testing.T) {
	for n, long := range map[int]string{0: "\x00\x00", 1: "\x01\x00", 255: "\xff\x00", 256: "\x00\x01", 65535: "\xff\xff"} {
		record := strings.Repeat("r", n)
		lengths, bytes := SumOf(long), SumOf(record)
		want := "ahead" + long + string(lengths[:]) + record + string(bytes[:])
		if got := string(Append([]byte("ahead"), record)); got != want {
			t.Errorf("%d bytes: %x, want %x", n, got, want)
		}
	}
}

func checkFirst(t *testing.T, s, record string, size int) {
	t.Helper()
	if got, n := First(s); got != record || n != size {
		t.Errorf("the first frame of %x: %x, %d, want %x, %d", s, got, n, record, size)
	}
}

func TestFirst(t *testing.T) {
	for _, n := range []int{0, 1, 2, 255, 256, 65535} {
		record := strings.Repeat("r", n)
		frame := string(Append(nil, record))
		checkFirst(t, frame, record, n+10)
		checkFirst(t, frame+"more", record, n+10)
		checkFirst(t, frame+frame, record, n+10)
		checkFirst(t, frame[1:], "", 0)
	}
}

func TestFirstNotWhole(t *testing.T) {
	frame := string(Append(nil, "some record"))
	for n := range len(frame) {
		checkFirst(t, frame[:n], "", 0)
	}
}

func TestFirstTurned(t *testing.T) {
	frame := string(Append(nil, "some record"))
	for i := range len(frame) {
		for bit := range 8 {
			b := []byte(frame)
			b[i] ^= 1 << bit
			checkFirst(t, string(b)+frame, "", 0)
		}
	}
}
