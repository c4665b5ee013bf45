package larder_test

import (
	"fmt"
	"hash/crc32"
	"strings"
	"testing"

	"larder/api"
	"larder/larder"
)

// roomy has room for all that a test brings.
func roomy(min, max, bits int) api.Config {
	return api.Config{Min: min, Max: max, Bits: bits, Room: api.MaxStore}
}

func TestBackupNames(t *testing.T) {
	s, b := begin(t, example)
	for _, name := range []string{"a", "z", "az", strings.Repeat("m", api.MaxName), "abcdefghijkl"} {
		both(t, s, b, name, "data")
	}
	for _, name := range []string{
		"", strings.Repeat("m", api.MaxName+1), strings.Repeat("m", 1000),
		"A", "Z", "`", "{", "a b", " a", "a ", "a-b", "a1", "1a", "a\x00", "\x00a", "\xff", "a\n", "é", "aé", "а",
	} {
		checkErrno(t, fmt.Sprintf("P9: name %q", name), s.Backup(name, "data"), api.ErrName)
	}
	checkStore(t, s, b)
}

func TestBackupSizes(t *testing.T) {
	s, b := begin(t, roomy(20, 50, 5))
	for i, n := range []int{0, 1, 19, 20, 21, 49, 50, 51, api.MaxData - 1, api.MaxData} {
		name := "abcdefghij"[i : i+1]
		if e := both(t, s, b, name, noise(n, 256, uint32(i))); e != api.OK {
			t.Errorf("%d bytes do not fit", n)
		}
	}
	for _, n := range []int{api.MaxData + 1, 100000} {
		checkErrno(t, "P9: too big", s.Backup("x", noise(n, 256, 1)), api.ErrBig)
	}
	checkStore(t, s, b)
}

func TestBackupErrorsInOrder(t *testing.T) {
	// four streams without chunks, of 13 bytes each, leave 28 bytes
	s, b := begin(t, api.Config{Min: 16, Max: 20, Bits: 1, Room: 100})
	for _, name := range []string{"a", "b", "c", "d"} {
		both(t, s, b, name, "")
	}
	big, full := noise(api.MaxData+1, 256, 1), noise(19, 256, 1)
	checkErrno(t, "P9: name, too big", s.Backup("A", big), api.ErrName)
	checkErrno(t, "P9: name, full", s.Backup("", full), api.ErrName)
	checkErrno(t, "P9: there, too big", s.Backup("a", big), api.ErrThere)
	checkErrno(t, "P9: there, full", s.Backup("a", full), api.ErrThere)
	checkErrno(t, "P9: there, and would fit", s.Backup("d", ""), api.ErrThere)
	checkErrno(t, "P9: too big", s.Backup("e", big), api.ErrBig)
	checkErrno(t, "P9: full", s.Backup("e", full), api.ErrFull)
	checkStore(t, s, b)
}

func TestSameNameTwice(t *testing.T) {
	s, b := begin(t, example)
	both(t, s, b, "a", "data")
	checkErrno(t, "P9: the same", s.Backup("a", "data"), api.ErrThere)
	checkErrno(t, "P9: other data", s.Backup("a", "other"), api.ErrThere)
	both(t, s, b, "b", "")
	checkErrno(t, "P9: an empty one", s.Backup("b", "data"), api.ErrThere)
	checkStore(t, s, b)
}

func TestChunkPacked(t *testing.T) {
	s, b := begin(t, example)
	at := len(s.Bytes())
	for _, c := range []struct{ name, data, told string }{
		{"shorter", "aaaaa", "\x01\x00a\x81\x01"},
		{"same", "aaaa", "\x00aaaa"}, // packed it is as long
		{"longer", "abc", "\x00abc"},
	} {
		both(t, s, b, c.name, c.data)
		if want := frameByWords(c.told); !strings.HasPrefix(s.Bytes()[at:], want) {
			t.Errorf("P9: %q: %x, want %x", c.data, s.Bytes()[at:], want)
		}
		at = len(s.Bytes())
	}
}

func TestChunkSeveralTimes(t *testing.T) {
	s, b := begin(t, example)
	one, other := zeros(20), "\x00"+zeros(18)+"\x02"
	if cuts, _ := larder.Cuts(one+other+one, example); len(cuts) != 3 || cuts[0] != 20 || cuts[1] != 40 {
		t.Fatalf("the test has other chunks than it means: %v", cuts)
	}
	at := len(s.Bytes())
	both(t, s, b, "a", one+one+other+one+other+"end")
	want := frameByWords("\x01"+packByWords(one)) + frameByWords("\x01"+packByWords(other)) +
		frameByWords("\x00end") + frameByWords("\x02\x01a\x00\x00\x01\x00\x01\x02")
	if got := s.Bytes()[at:]; got != want || s.Chunks() != 3 {
		t.Errorf("P9: %x, want %x", got, want)
	}
	both(t, s, b, "b", other+"new"+one[3:]+one)
	both(t, s, b, "c", "new"+one[3:])
}

func TestOtherNameTakesOneFrame(t *testing.T) {
	s, b := begin(t, roomy(16, 80, 4))
	data := noise(api.MaxData, 256, 5)
	both(t, s, b, "a", data)
	chunks, at := s.Chunks(), len(s.Bytes())
	numbers := ""
	for n := range chunks {
		numbers += varintByWords(n)
	}
	both(t, s, b, "b", data)
	if got, want := s.Bytes()[at:], frameByWords("\x02\x01b"+numbers); got != want || s.Chunks() != chunks {
		t.Errorf("P15: %x, want %x; %d chunks, want %d", got, want, s.Chunks(), chunks)
	}
	both(t, s, b, "c", data[:900]+"!"+data[901:])
	if more := s.Chunks() - chunks; more < 1 || more > 10 {
		t.Errorf("P15: one byte changed takes %d chunks more", more)
	}
}

// Numbers that take two bytes, and a stream's frame that is longer than 255.
func TestManyChunks(t *testing.T) {
	s, b := begin(t, roomy(16, 16, 1))
	for i, name := range []string{"a", "b", "abcdefghijkl"} {
		if e := both(t, s, b, name, noise(api.MaxData, 256, uint32(i))); e != api.OK {
			t.Fatalf("%q: %d", name, e)
		}
	}
	if s.Chunks() != 375 || !strings.Contains(s.Bytes(), "\x08\x01"+sumByWords("\x08\x01")+"\x02\x0cabcdefghijkl\xfa\x01") {
		t.Errorf("P9: %d chunks, or another frame than the test means", s.Chunks())
	}
}

// twin gives other bytes with the same CRC-32.
func twin(s string) string {
	b := []byte(s)
	for i, turn := range []byte{0x41, 0x06, 0x71, 0xdb, 0x01} {
		b[i] ^= turn
	}
	return string(b)
}

func TestTwinChunks(t *testing.T) {
	s, b := begin(t, roomy(20, 20, 1))
	one := noise(20, 256, 9)
	other := twin(one)
	if one == other || crc32.ChecksumIEEE([]byte(one)) != crc32.ChecksumIEEE([]byte(other)) {
		t.Fatal("these are no twins")
	}
	both(t, s, b, "a", one)
	both(t, s, b, "b", other)
	both(t, s, b, "c", other+one+other)
	if s.Chunks() != 2 {
		t.Errorf("P9: %d chunks, want 2", s.Chunks())
	}
}

// roomFor tells how many bytes a store has that keeps just this stream.
func roomFor(c api.Config, data string) int {
	c.Room = 10000 // takes as many bytes in the head as any room of the test
	b := newBook(c)
	b.backup("a", data)
	return len(b.bytes)
}

func TestFullToTheLastByte(t *testing.T) {
	c := api.Config{Min: 16, Max: 40, Bits: 3}
	for i, data := range []string{
		noise(150, 256, 1), noise(151, 256, 2), zeros(1500) + noise(100, 256, 5), noise(500, 256, 3), noise(api.MaxData, 256, 4),
	} {
		c.Room = roomFor(c, data)
		s, b := begin(t, c)
		if e := both(t, s, b, "a", data); e != api.OK || len(s.Bytes()) != c.Room {
			t.Errorf("P9: case %d: %d, %d bytes of %d", i, e, len(s.Bytes()), c.Room)
		}
		checkErrno(t, "P9: full", s.Backup("b", ""), api.ErrFull)
		checkErrno(t, "P9: full", s.Backup("b", data), api.ErrFull)
		checkStore(t, s, b)
		c.Room--
		s, b = begin(t, c)
		checkErrno(t, "P9: a byte too full", both(t, s, b, "a", data), api.ErrFull)
		if got, e := s.Restore("a"); got != "" || e != api.ErrNone {
			t.Errorf("P9: what did not fit is there: %d bytes, %d", len(got), e)
		}
	}
}

// What a Backup had begun is taken back: its chunks are neither there nor
// numbered, and the same name may be brought again.
func TestTakenBack(t *testing.T) {
	c := api.Config{Min: 20, Max: 20, Bits: 1, Room: 500}
	s, b := begin(t, c)
	first, long, chunk := noise(60, 256, 1), noise(600, 256, 2), noise(20, 256, 3)
	both(t, s, b, "a", first)
	checkErrno(t, "P9", both(t, s, b, "b", first+long), api.ErrFull)
	checkErrno(t, "P9", both(t, s, b, "b", long), api.ErrFull)
	checkErrno(t, "P9", both(t, s, b, "b", chunk+twin(chunk)+long), api.ErrFull)
	checkErrno(t, "P9", both(t, s, b, "b", long[40:60]+first), api.OK)
	checkErrno(t, "P9", both(t, s, b, "c", twin(chunk)+chunk), api.OK)
	checkErrno(t, "P9", both(t, s, b, "d", long), api.ErrFull)
	checkErrno(t, "P9", both(t, s, b, "d", long[:40]), api.OK)
}

func TestManyBackupsByTheWords(t *testing.T) {
	for seed := range uint32(12) {
		c := api.Config{Min: 16 + int(seed)*3, Max: 40 + int(seed)*5, Bits: 1 + int(seed)%6, Room: 2000 + int(seed)*500}
		s, b := begin(t, c)
		text := noise(1200, 2+int(seed%3)*100, seed)
		full := 0
		for k := range 60 {
			from, to := k*37%600, 600+k*53%600
			data := text[from:to] + noise(k, 256, seed+uint32(k)) + text[:k*11]
			name := string([]byte{'a' + byte(k%26), 'a' + byte(k/26)})
			if both(t, s, b, name, data) == api.ErrFull {
				full++
			}
		}
		if full == 0 || full == 60 {
			t.Errorf("case %d: %d of 60 do not fit", seed, full)
		}
	}
}

// However the goroutines run, the bytes are the same.
func TestSameBytesEachTime(t *testing.T) {
	c := roomy(16, 30, 1)
	data := noise(api.MaxData, 3, 7)
	b := newBook(c)
	b.backup("a", data)
	for range 50 {
		s := newStore(t, c)
		checkErrno(t, "P9", s.Backup("a", data), api.OK)
		if s.Bytes() != b.bytes {
			t.Fatal("P2: other bytes")
		}
	}
}
