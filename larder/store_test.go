package larder_test

import (
	"fmt"
	"hash/crc32"
	"math"
	"slices"
	"strings"
	"testing"
	"unsafe"

	"larder/api"
	"larder/larder"
)

func varintByWords(n int) string {
	if n < 128 {
		return string([]byte{byte(n)})
	}
	return string([]byte{byte(128 + n%128)}) + varintByWords(n/128)
}

func sumByWords(s string) string {
	c := crc32.ChecksumIEEE([]byte(s))
	return string([]byte{byte(c), byte(c >> 8), byte(c >> 16), byte(c >> 24)})
}

func frameByWords(s string) string {
	n := string([]byte{byte(len(s) % 256), byte(len(s) / 256)})
	return n + sumByWords(n) + s + sumByWords(s)
}

func headByWords(c api.Config) string {
	return frameByWords("LARDER" + varintByWords(c.Min) + varintByWords(c.Max) + varintByWords(c.Bits) + varintByWords(c.Room))
}

// book keeps streams by the document's words, with no haste.
type book struct {
	config  api.Config
	bytes   string
	chunks  []string
	streams map[string]string
}

func newBook(c api.Config) *book {
	return &book{config: c, bytes: headByWords(c), streams: map[string]string{}}
}

// backup is asked only for what errs in nothing but its room.
func (b *book) backup(name, data string) api.Errno {
	more, stream, chunks, last := "", "\x02"+string([]byte{byte(len(name))})+name, slices.Clone(b.chunks), 0
	for _, place := range cutsByWords(data, b.config) {
		chunk := data[last:place]
		last = place
		if !slices.Contains(chunks, chunk) {
			told := "\x00" + chunk
			if packed := packByWords(chunk); len(packed) < len(chunk) {
				told = "\x01" + packed
			}
			more += frameByWords(told)
			chunks = append(chunks, chunk)
		}
		stream += varintByWords(slices.Index(chunks, chunk))
	}
	more += frameByWords(stream)
	if len(b.bytes)+len(more) > b.config.Room {
		return api.ErrFull
	}
	b.bytes, b.chunks = b.bytes+more, chunks
	b.streams[name] = data
	return api.OK
}

func (b *book) names() []string {
	var names []string
	for name := range b.streams {
		names = append(names, name)
	}
	slices.Sort(names)
	return names
}

func newStore(t *testing.T, c api.Config) *larder.Store {
	t.Helper()
	s, e := larder.New(c)
	if s == nil || e != api.OK {
		t.Fatalf("P6: New(%+v): %v, %d", c, s, e)
	}
	return s
}

func checkErrno(t *testing.T, what string, got, want api.Errno) {
	t.Helper()
	if got != want {
		t.Errorf("%s: %d, want %d", what, got, want)
	}
}

func checkRestore(t *testing.T, s *larder.Store, name, want string) {
	t.Helper()
	if got, e := s.Restore(name); got != want || e != api.OK {
		t.Errorf("P10: %q: %q, %d, want %q", name, got, e, want)
	}
}

// checkStore holds all that a store tells against the book.
func checkStore(t *testing.T, s *larder.Store, b *book) {
	t.Helper()
	if got := s.Bytes(); got != b.bytes {
		t.Fatalf("P8: bytes %x, want %x", got, b.bytes)
	}
	if got := s.Config(); got != b.config {
		t.Errorf("P8: %+v, want %+v", got, b.config)
	}
	if got := s.List(); !slices.Equal(got, b.names()) {
		t.Errorf("P10: names %q, want %q", got, b.names())
	}
	if got := s.Chunks(); got != len(b.chunks) {
		t.Errorf("P10: %d chunks, want %d", got, len(b.chunks))
	}
	for name, data := range b.streams {
		checkRestore(t, s, name, data)
	}
}

// both keeps a stream in a store and in its book, and holds them together.
func both(t *testing.T, s *larder.Store, b *book, name, data string) api.Errno {
	t.Helper()
	want := b.backup(name, data)
	checkErrno(t, fmt.Sprintf("P9: Backup(%q, %d bytes)", name, len(data)), s.Backup(name, data), want)
	checkStore(t, s, b)
	return want
}

// begin makes a store and its book.
func begin(t *testing.T, c api.Config) (*larder.Store, *book) {
	t.Helper()
	s, b := newStore(t, c), newBook(c)
	checkStore(t, s, b)
	return s, b
}

var example = api.Config{Min: 16, Max: 20, Bits: 1, Room: 1000}

func TestStoreExamples(t *testing.T) {
	s := newStore(t, example)
	head := "\x0b\x00" + sumByWords("\x0b\x00") + "LARDER\x10\x14\x01\xe8\x07" + sumByWords("LARDER\x10\x14\x01\xe8\x07")
	if got := s.Bytes(); got != head || len(got) != 21 {
		t.Errorf("P6: %x, want %x", got, head)
	}
	checkErrno(t, "P9", s.Backup("a", zeros(20)), api.OK)
	want := head + frameByWords("\x01\x00\x00\x90\x01") + frameByWords("\x02\x01a\x00")
	if got := s.Bytes(); got != want || len(got) != 50 {
		t.Errorf("P9: %x, want %x", got, want)
	}
	checkRestore(t, s, "a", zeros(20))
}

// atTheBounds may be, beyondThem may not.
var atTheBounds = []api.Config{
	{Min: 16, Max: 16, Bits: 1, Room: 100},
	{Min: 16, Max: 200, Bits: 12, Room: 60000},
	{Min: 200, Max: 200, Bits: 1, Room: 60000},
	{Min: 127, Max: 128, Bits: 12, Room: 127},
	{Min: 128, Max: 129, Bits: 5, Room: 128},
	{Min: 16, Max: 100, Bits: 5, Room: 16383},
	{Min: 16, Max: 100, Bits: 5, Room: 16384},
}

var beyondThem = []api.Config{
	{},
	{Min: 15, Max: 40, Bits: 4, Room: 1000},
	{Min: 0, Max: 40, Bits: 4, Room: 1000},
	{Min: 41, Max: 40, Bits: 4, Room: 1000},
	{Min: 20, Max: 201, Bits: 4, Room: 1000},
	{Min: 20, Max: 40, Bits: 0, Room: 1000},
	{Min: 20, Max: 40, Bits: 13, Room: 1000},
	{Min: 20, Max: 40, Bits: 4, Room: 99},
	{Min: 20, Max: 40, Bits: 4, Room: 60001},
	{Min: 20, Max: 40, Bits: 4, Room: 1 << 40},
	{Min: math.MinInt, Max: math.MaxInt, Bits: math.MinInt, Room: math.MaxInt},
	{Min: -1, Max: -1, Bits: -1, Room: -1},
}

func TestNewAtTheBounds(t *testing.T) {
	for _, c := range atTheBounds {
		begin(t, c)
	}
}

func TestNewRefused(t *testing.T) {
	for _, c := range beyondThem {
		if s, e := larder.New(c); s != nil || e != api.ErrConfig {
			t.Errorf("P6: %+v: %v, %d", c, s, e)
		}
	}
}

func TestNilStore(t *testing.T) {
	for _, s := range []*larder.Store{nil, {}} {
		if s.Bytes() != "" || s.Config() != (api.Config{}) || len(s.List()) != 0 || s.Chunks() != 0 {
			t.Errorf("P1: %q, %+v, %q, %d", s.Bytes(), s.Config(), s.List(), s.Chunks())
		}
		checkErrno(t, "P1: Backup", s.Backup("a", "data"), api.ErrDown)
		checkErrno(t, "P1: Backup, all wrong", s.Backup("A", noise(3000, 256, 1)), api.ErrDown)
		checkErrno(t, "P1: Stop", s.Stop(1), api.ErrDown)
		if data, e := s.Restore("a"); data != "" || e != api.ErrDown {
			t.Errorf("P1: Restore: %q, %d", data, e)
		}
	}
}

func TestRestoreNone(t *testing.T) {
	s, b := begin(t, example)
	both(t, s, b, "ab", "data")
	for _, name := range []string{"", "a", "abc", "b", "AB", "ab\x00", strings.Repeat("a", 1000)} {
		if data, e := s.Restore(name); data != "" || e != api.ErrNone {
			t.Errorf("P10: %q: %q, %d", name, data, e)
		}
	}
	checkStore(t, s, b)
}

func TestListRises(t *testing.T) {
	s, b := begin(t, api.Config{Min: 16, Max: 20, Bits: 1, Room: 2000})
	for _, name := range []string{"z", "b", "aa", "zzzzzzzzzzzz", "a", "ba", "ab", "aaaaaaaaaaaa", "za"} {
		both(t, s, b, name, name)
	}
	want := []string{"a", "aa", "aaaaaaaaaaaa", "ab", "b", "ba", "z", "za", "zzzzzzzzzzzz"}
	if got := s.List(); !slices.Equal(got, want) {
		t.Errorf("P10: %q, want %q", got, want)
	}
}

func TestStoresAreApart(t *testing.T) {
	c := api.Config{Min: 16, Max: 60, Bits: 4, Room: 9000}
	one, a := begin(t, c)
	other, b := begin(t, c)
	both(t, one, a, "x", noise(700, 256, 1))
	both(t, other, b, "y", noise(600, 256, 2)+noise(700, 256, 1))
	both(t, one, a, "y", noise(600, 256, 2))
	checkStore(t, one, a)
	checkStore(t, other, b)
}

func TestAnswersAreNewMemory(t *testing.T) {
	s, b := begin(t, example)
	for _, name := range []string{"c", "b", "a"} {
		both(t, s, b, name, name+zeros(30))
	}
	list := s.List()
	list = list[:cap(list)]
	for i := range list {
		list[i] = "changed"
	}
	checkStore(t, s, b)
}

// own copies bytes into a string whose memory can be written to, and tells both.
func own(s string) ([]byte, string) {
	b := []byte(s)
	return b, unsafe.String(&b[0], len(b))
}

func TestArgumentsAreNotKept(t *testing.T) {
	s, b := begin(t, example)
	name, data := "stream", noise(19, 256, 4) // one chunk, that packs no shorter
	nameBytes, nameOwn := own(name)
	dataBytes, dataOwn := own(data)
	checkErrno(t, "P9", s.Backup(nameOwn, dataOwn), b.backup(name, data))
	for _, bytes := range [][]byte{nameBytes, dataBytes} {
		for i := range bytes {
			bytes[i] = 'q'
		}
	}
	checkStore(t, s, b)
	checkErrno(t, "P9", s.Backup(name, ""), api.ErrThere)
}

func TestAnswersShareNoBytes(t *testing.T) {
	s, b := begin(t, example)
	both(t, s, b, "stream", noise(19, 256, 4))
	checkSharesNoBytes(t, s, b)
	checkSharesNoBytes(t, open(t, s.Bytes()), b)
}

func checkSharesNoBytes(t *testing.T, s *larder.Store, b *book) {
	t.Helper()
	ask := func() [3]string {
		data, _ := s.Restore("stream")
		return [3]string{s.Bytes(), data, s.List()[0]}
	}
	for i, answer := range ask() {
		if unsafe.StringData(answer) == unsafe.StringData(ask()[i]) {
			t.Errorf("P2: two answers share their memory: %q", answer)
		}
	}
	for i := range 2 {
		for _, answer := range ask() {
			bytes := unsafe.Slice(unsafe.StringData(answer), len(answer))
			bytes[i] ^= 0xff
		}
	}
	checkStore(t, s, b)
}
