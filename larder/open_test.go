package larder_test

import (
	"slices"
	"strings"
	"testing"

	"larder/api"
	"larder/larder"
)

// recordByWords gives what the frame holds that bytes begin with.
func recordByWords(bytes string) (string, bool) {
	if len(bytes) < 2 {
		return "", false
	}
	n := int(bytes[0]) + int(bytes[1])*256
	if len(bytes) < n+10 {
		return "", false
	}
	r := bytes[6 : 6+n]
	return r, bytes[:n+10] == frameByWords(r)
}

// numbersByWords reads each varint up to its last byte, and asks then whether
// the number is told so. No number of a store is as great as 100 million.
func numbersByWords(s string) ([]int, bool) {
	var numbers []int
	for s != "" {
		n, used := 0, 0
		for n < 1e8 && used < len(s) {
			n += int(s[used]) % 128 << (7 * used)
			used++
			if s[used-1] < 128 {
				break
			}
		}
		if n >= 1e8 || varintByWords(n) != s[:used] {
			return nil, false
		}
		numbers = append(numbers, n)
		s = s[used:]
	}
	return numbers, true
}

// unpackByWords follows the parts, and asks then whether they are told so.
func unpackByWords(s string) (string, bool) {
	out := ""
	for i := 0; i < len(s); {
		if len(out) > api.MaxData {
			return "", false
		}
		n := int(s[i])
		if n < 128 && i+2+n <= len(s) {
			out += s[i+1 : i+2+n]
			i += 2 + n
			continue
		}
		if n < 128 || i+1 == len(s) || s[i+1] == 0 || int(s[i+1]) > len(out) {
			return "", false
		}
		for range n - 128 + api.Least {
			back := len(out) - int(s[i+1])
			out += out[back : back+1]
		}
		i += 2
	}
	return out, packByWords(out) == s
}

func mayBe(c api.Config) bool {
	_, e := larder.Cuts("", c)
	return e == api.OK
}

// openByWords gives the book of a store that is opened on bytes; nil if they
// are none.
func openByWords(bytes string) *book {
	r, ok := recordByWords(bytes)
	numbers, told := numbersByWords(strings.TrimPrefix(r, "LARDER"))
	if !ok || !told || len(numbers) != 4 || !strings.HasPrefix(r, "LARDER") {
		return nil
	}
	c := api.Config{Min: numbers[0], Max: numbers[1], Bits: numbers[2], Room: numbers[3]}
	if !mayBe(c) {
		return nil
	}
	b := newBook(c)
	for {
		r, ok := recordByWords(bytes[len(b.bytes):])
		if !ok || len(b.bytes)+len(frameByWords(r)) > c.Room || !b.take(r) {
			return b
		}
		b.bytes += frameByWords(r)
	}
}

// take brings in what a right record tells.
func (b *book) take(r string) bool {
	if r != "" && r[0] == 2 {
		return b.takeStream(r[1:])
	}
	if len(r) > b.config.Max+1 {
		return false
	}
	chunk, ok := chunkByWords(r)
	if !ok || len(chunk) > b.config.Max || slices.Contains(b.chunks, chunk) {
		return false
	}
	b.chunks = append(b.chunks, chunk)
	return true
}

func chunkByWords(r string) (string, bool) {
	if len(r) < 2 || r[0] > 1 {
		return "", false
	}
	if r[0] == 0 {
		return r[1:], len(packByWords(r[1:])) >= len(r[1:])
	}
	chunk, ok := unpackByWords(r[1:])
	return chunk, ok && len(r[1:]) < len(chunk)
}

func nameByWords(name string) bool {
	letters := strings.Trim(name, "abcdefghijklmnopqrstuvwxyz") == ""
	return letters && name != "" && len(name) <= api.MaxName
}

func (b *book) takeStream(r string) bool {
	if r == "" || int(r[0]) >= len(r) {
		return false
	}
	name := r[1 : 1+int(r[0])]
	_, there := b.streams[name]
	numbers, ok := numbersByWords(r[1+len(name):])
	if !ok || there || !nameByWords(name) {
		return false
	}
	data := ""
	var places []int
	for _, n := range numbers {
		if n >= len(b.chunks) {
			return false
		}
		data += b.chunks[n]
		places = append(places, len(data))
		if len(data) > api.MaxData {
			return false
		}
	}
	if !slices.Equal(places, cutsByWords(data, b.config)) {
		return false
	}
	b.streams[name] = data
	return true
}

func open(t *testing.T, bytes string) *larder.Store {
	t.Helper()
	s, e := larder.Open(bytes)
	if s == nil || e != api.OK {
		t.Fatalf("P7: Open(%x): %v, %d", bytes, s, e)
	}
	return s
}

func refuseOpen(t *testing.T, bytes string) {
	t.Helper()
	if s, e := larder.Open(bytes); s != nil || e != api.ErrBytes {
		t.Errorf("P7: Open(%x): %v, %d, want error %d", bytes, s, e, api.ErrBytes)
	}
}

// checkOpen holds what Open answers against the words, and tells how many of
// the bytes are kept.
func checkOpen(t *testing.T, bytes string) int {
	t.Helper()
	b := openByWords(bytes)
	if b == nil {
		refuseOpen(t, bytes)
		return 0
	}
	checkStore(t, open(t, bytes), b)
	return len(b.bytes)
}

// checkKept opens bytes of which just these are to be kept.
func checkKept(t *testing.T, what, bytes, kept string) {
	t.Helper()
	if got := open(t, bytes).Bytes(); got != kept {
		t.Errorf("P7: %s: of %x are kept %x, want %x", what, bytes, got, kept)
	}
	if n := checkOpen(t, bytes); n != len(kept) {
		t.Errorf("the test's words keep %d bytes, and the test means %d: %s", n, len(kept), what)
	}
}

// pantry is a store with streams of all kinds: empty, of one chunk, of several,
// of chunks that others have, packed and plain.
func pantry(t *testing.T, c api.Config) (*larder.Store, *book) {
	t.Helper()
	s, b := begin(t, c)
	for _, x := range []struct{ name, data string }{
		{"empty", ""}, {"short", "abc"}, {"zeros", zeros(90)}, {"some", noise(90, 256, 1)},
		{"both", noise(90, 256, 1) + zeros(20)}, {"few", noise(70, 2, 3)}, {"again", noise(90, 256, 1)},
	} {
		if e := both(t, s, b, x.name, x.data); e != api.OK {
			t.Fatalf("%q: %d", x.name, e)
		}
	}
	return s, b
}

func TestOpenedIsTheSame(t *testing.T) {
	for _, c := range []api.Config{example, roomy(16, 16, 1), roomy(16, 200, 12), roomy(30, 60, 2), roomy(200, 200, 5)} {
		s, b := begin(t, c)
		checkStore(t, open(t, s.Bytes()), b)
		s, b = pantry(t, c)
		checkStore(t, open(t, s.Bytes()), b)
		checkOpen(t, s.Bytes())
	}
}

// A store and one that is opened on its bytes answer the same from then on.
func TestOpenedGoesOnAlike(t *testing.T) {
	s, b := pantry(t, example)
	other := open(t, s.Bytes())
	full := 0
	for k := range 12 {
		name, data := string([]byte{'a', 'a' + byte(k)}), noise(90, 256, uint32(k)%5)+zeros(k)
		e := s.Backup(name, data)
		checkErrno(t, "P12: "+name, other.Backup(name, data), e)
		checkErrno(t, "P12: again "+name, other.Backup(name, data), s.Backup(name, data))
		checkErrno(t, "P9: "+name, e, b.backup(name, data))
		checkStore(t, s, b)
		checkStore(t, other, b)
		if e == api.ErrFull {
			full++
		}
	}
	if full == 0 || full == 12 {
		t.Errorf("%d of 12 do not fit", full)
	}
	checkErrno(t, "P12: there", other.Backup("zeros", "x"), api.ErrThere)
	if data, e := other.Restore("none"); data != "" || e != api.ErrNone {
		t.Errorf("P12: %q, %d", data, e)
	}
}

// ends tells where the frames of a store's bytes end.
func ends(t *testing.T, bytes string) []int {
	t.Helper()
	var places []int
	for at := 0; at < len(bytes); {
		r, ok := recordByWords(bytes[at:])
		if !ok {
			t.Fatalf("no frame at %d of %x", at, bytes)
		}
		at += len(frameByWords(r))
		places = append(places, at)
	}
	return places
}

// lastEnd tells where the last whole frame ends of the first n bytes.
func lastEnd(ends []int, n int) int {
	last := 0
	for _, end := range ends {
		if end <= n {
			last = end
		}
	}
	return last
}

func TestOpenCutAnywhere(t *testing.T) {
	s, _ := pantry(t, example)
	bytes := s.Bytes()
	places := ends(t, bytes)
	for n := range len(bytes) + 1 {
		last := lastEnd(places, n)
		if last == 0 {
			refuseOpen(t, bytes[:n])
			continue
		}
		if got := open(t, bytes[:n]).Bytes(); got != bytes[:last] {
			t.Errorf("P7: of the first %d bytes are kept %d, want %d", n, len(got), last)
		}
	}
	for _, end := range places {
		checkKept(t, "whole frames", bytes[:end], bytes[:end])
	}
}

func TestOpenWithAnythingBehind(t *testing.T) {
	s, _ := pantry(t, example)
	bytes := s.Bytes()
	for n := range 40 {
		for _, kinds := range []int{1, 2, 256} {
			checkKept(t, "noise behind", bytes+noise(n, kinds, uint32(n)), bytes)
		}
	}
	last := frameByWords("\x02\x01z")
	for n := range len(last) {
		checkKept(t, "a part of a frame behind", bytes+last[:n], bytes)
	}
	checkKept(t, "a frame behind", bytes+last, bytes+last)
	checkKept(t, "a frame behind what is wrong", bytes+"\x00"+last, bytes)
	checkKept(t, "a frame behind one that is wrong", bytes+frameByWords("")+last, bytes)
	checkKept(t, "another store behind", bytes+bytes, bytes)
	checkKept(t, "much behind", bytes+strings.Repeat("\x00", 200000), bytes)
}

func TestOpenNoHead(t *testing.T) {
	head := headByWords(example)
	chunk := frameByWords("\x00abc")
	for _, bytes := range []string{
		"", "L", "LARDER", "LARDER\x10\x14\x01\xe8\x07", head[:len(head)-1], head[1:], "\x00" + head,
		chunk, chunk + head, frameByWords("\x02\x01a") + head, strings.Repeat("\xff", 500), zeros(500),
	} {
		refuseOpen(t, bytes)
	}
	for _, r := range []string{
		"", "L", "LARDE", "LARDER", "LARDER\x10", "LARDER\x10\x14", "LARDER\x10\x14\x01", "LARDER\x10\x14\x01\xe8",
		"larder\x10\x14\x01\xe8\x07", "LARDEQ\x10\x14\x01\xe8\x07", "ARDER\x10\x14\x01\xe8\x07", " LARDER\x10\x14\x01\xe8\x07",
		"\x10\x14\x01\xe8\x07", "LARDERLARDER\x10\x14\x01\xe8\x07",
		"LARDER\x10\x14\x01\xe8\x07\x00", "LARDER\x10\x14\x01\xe8\x07\x01", "LARDER\x10\x14\x01\xe8\x07\x80", // something behind
		"LARDER\x90\x00\x14\x01\xe8\x07", "LARDER\x10\x94\x00\x01\xe8\x07", "LARDER\x10\x14\x81\x00\xe8\x07", "LARDER\x10\x14\x01\xe8\x87\x00",
		"LARDER\x10\x14\x01\xe8\x87\x80\x00", "LARDER\x10\x14\x01\xe8\x87\x80\x80\x00", // told longer than need be
	} {
		refuseOpen(t, frameByWords(r)+chunk)
		refuseOpen(t, frameByWords(r))
	}
	checkKept(t, "a head alone", head, head)
}

// Numbers so great that they might come round to ones that may be.
func TestOpenGreatNumbers(t *testing.T) {
	for _, tail := range []string{
		"\x01", "\x02", "\x10", "\x7f", "\x80\x01", "\x80\x02", "\x80\x80\x01", "\x80\x80\x80\x80\x80\x01", strings.Repeat("\x80", 100) + "\x01", strings.Repeat("\xff", 100) + "\x7f",
	} {
		for pad := range 8 {
			great := strings.Repeat("\x80", pad) + tail
			refuseOpen(t, frameByWords("LARDER\x90\x80"+great+"\x14\x01\xe8\x07"))
			refuseOpen(t, frameByWords("LARDER\x10\x94\x80"+great+"\x01\xe8\x07"))
			refuseOpen(t, frameByWords("LARDER\x10\x14\x81"+great+"\xe8\x07"))
			refuseOpen(t, frameByWords("LARDER\x10\x14\x01\xe8\x87\x80"+great))
			begin := headByWords(example) + frameByWords("\x01\x00\x00\x90\x01")
			checkKept(t, "a great number", begin+frameByWords("\x02\x01a\x80"+great), begin)
		}
	}
}

func TestOpenConfigurations(t *testing.T) {
	for _, c := range atTheBounds {
		checkKept(t, "at the bounds", headByWords(c), headByWords(c))
	}
	for _, c := range beyondThem {
		refuseOpen(t, headByWords(c))
		refuseOpen(t, headByWords(c)+frameByWords("\x00abc"))
	}
}

func TestOpenWrongSums(t *testing.T) {
	head, chunk, stream := headByWords(example), frameByWords("\x00abc"), frameByWords("\x02\x01a\x00")
	for i := range 4 {
		for _, turn := range []byte{1, 0x80, 0xff} {
			for _, at := range []int{2 + i, len(chunk) - 4 + i} {
				b := []byte(chunk)
				b[at] ^= turn
				checkKept(t, "a wrong sum", head+string(b)+stream, head)
			}
			for _, at := range []int{2 + i, len(head) - 4 + i} {
				b := []byte(head)
				b[at] ^= turn
				refuseOpen(t, string(b)+chunk)
			}
		}
	}
	n := "\x04\x00"
	checkKept(t, "no sum of the length", head+n+zeros(4)+"\x00abc"+sumByWords("\x00abc"), head)
	checkKept(t, "no sum of the bytes", head+n+sumByWords(n)+"\x00abc"+zeros(4), head)
	checkKept(t, "a sum over all", head+n+sumByWords(n)+"\x00abc"+sumByWords(n+"\x00abc"), head)
	checkKept(t, "a longer length", head+"\x05\x00"+sumByWords(n)+"\x00abc"+sumByWords("\x00abc"), head)
}

// A record behind some that are right is kept, or it ends what is kept.
func checkRecord(t *testing.T, what, begin, r string, right bool) {
	t.Helper()
	kept, end := begin, frameByWords("\x02\x03end")
	if right {
		kept += frameByWords(r) + end
	}
	checkKept(t, what, begin+frameByWords(r)+end, kept)
}

func TestOpenKinds(t *testing.T) {
	head := headByWords(example)
	checkRecord(t, "nothing", head, "", false)
	for kind := range 256 {
		r := string([]byte{byte(kind)})
		checkRecord(t, "a kind alone", head, r, false)
		checkRecord(t, "a chunk", head, r+"abc", kind == 0)
		checkRecord(t, "a chunk packed", head, r+packByWords(zeros(9)), kind <= 1)
		checkRecord(t, "a stream", head, r+"\x01a", kind == 2 || kind == 0)
	}
	checkRecord(t, "a second head", head, "LARDER\x10\x14\x01\xe8\x07", false)
}

func TestOpenChunks(t *testing.T) {
	for _, c := range []api.Config{example, roomy(16, 200, 12), roomy(16, 16, 1)} {
		head := headByWords(c)
		checkRecord(t, "a plain chunk of 0 bytes", head, "\x00", false)
		checkRecord(t, "a packed chunk of 0 bytes", head, "\x01", false)
		for _, n := range []int{1, 2, c.Max - 1, c.Max, c.Max + 1, c.Max + 2, 2 * c.Max, 1000} {
			checkRecord(t, "a plain chunk", head, "\x00"+distinct(n), n <= c.Max)
			packed := packByWords(zeros(n))
			checkRecord(t, "a packed chunk", head, "\x01"+packed, n <= c.Max && len(packed) < n)
			checkRecord(t, "a packed chunk that is longer", head, "\x01"+packByWords(distinct(n)), false)
			checkRecord(t, "a plain chunk that packs", head, "\x00"+zeros(n), n <= c.Max && len(packed) >= n)
		}
		checkRecord(t, "a plain chunk of very many bytes", head, "\x00"+noise(30000, 256, 1), false)
		checkRecord(t, "a packed chunk of very many bytes", head, "\x01\x00a"+strings.Repeat("\xff\x01", 20000), false)
	}
}

func TestOpenChunksAsTold(t *testing.T) {
	head := headByWords(example)
	checkRecord(t, "plain, and packs shorter", head, "\x00aaaaa", false)
	checkRecord(t, "packed, and shorter", head, "\x01\x00a\x81\x01", true)
	checkRecord(t, "plain, and packs as long", head, "\x00aaaa", true)
	checkRecord(t, "packed, and as long", head, "\x01\x00a\x80\x01", false)
	checkRecord(t, "plain, and packs longer", head, "\x00abc", true)
	checkRecord(t, "packed, and longer", head, "\x01\x02abc", false)
	checkRecord(t, "packed, a part cut short", head, "\x01\x00a\x8f", false)
	checkRecord(t, "packed, from ahead of all", head, "\x01\x00a\x8f\x02", false)
	checkRecord(t, "packed, from here", head, "\x01\x00a\x8f\x00", false)
	checkRecord(t, "packed otherwise than Pack does", head, "\x01\x00a\x84\x01\x84\x01", false)
	checkRecord(t, "packed, not the nearest", head, "\x01\x02abc\x80\x03\x85\x06", false)
	checkRecord(t, "packed, the nearest", head, "\x01\x02abc\x88\x03", true)
}

func TestOpenChunksThatWereThere(t *testing.T) {
	begin := headByWords(example) + frameByWords("\x00abc") + frameByWords("\x01\x00\x00\x90\x01") + frameByWords("\x02\x01a\x00")
	checkRecord(t, "a plain one again", begin, "\x00abc", false)
	checkRecord(t, "a packed one again", begin, "\x01\x00\x00\x90\x01", false)
	checkRecord(t, "another plain one", begin, "\x00abd", true)
	checkRecord(t, "another packed one", begin, "\x01\x00\x00\x8f\x01", true)
	one := noise(20, 256, 9)
	head := headByWords(example)
	checkRecord(t, "another with the same sum", head+frameByWords("\x00"+one), "\x00"+twin(one), true)
}

func TestOpenStreams(t *testing.T) {
	// chunks 0 to 3: twenty bytes 0, three bytes, twenty bytes, sixteen
	begin := headByWords(example)
	x, y := noise(20, 256, 42), zeros(15)+"\x01"
	for _, r := range []string{"\x01\x00\x00\x90\x01", "\x00xyz", "\x00" + x, "\x01" + packByWords(y)} {
		begin += frameByWords(r)
	}
	if cuts, _ := larder.Cuts(x+y+x+zeros(20)+"xyz", example); !slices.Equal(cuts, []int{20, 36, 56, 76, 79}) {
		t.Fatalf("the test has other chunks than it means: %v", cuts)
	}
	for numbers, right := range map[string]bool{
		"": true, "\x00": true, "\x01": true, "\x02": true, "\x03": true,
		"\x00\x01": true, "\x00\x00\x00": true, "\x02\x03\x02\x00\x01": true, "\x03\x01": true,
		"\x04": false, "\x00\x04": false, "\x04\x00": false, "\x7f": false, "\xff\x01": false, // not there yet
		"\x01\x00": false, "\x01\x01": false, "\x00\x01\x00": false, // a cut too early
		"\x80\x00": false, "\x00\x81\x00": false, "\x81\x80\x00": false, // told shorter
		"\x80": false, "\x00\x80": false, "\xff\xff\xff\xff": false, // no end
	} {
		checkRecord(t, "a stream", begin, "\x02\x01a"+numbers, right)
	}
}

// Chunks that together are cut elsewhere, though each may be a chunk alone.
func TestOpenStreamsCutElsewhere(t *testing.T) {
	c := roomy(16, 40, 1)
	data := noise(400, 256, 1)
	cuts := cutsByWords(data, c)
	if cuts[0] <= 16 || cuts[1] > 40 {
		t.Fatalf("the test has other chunks than it means: %v", cuts)
	}
	head := headByWords(c)
	first, second, both := data[:cuts[0]], data[cuts[0]:cuts[1]], data[:cuts[1]]
	begin := head + frameByWords("\x00"+first) + frameByWords("\x00"+second) + frameByWords("\x00"+both)
	checkRecord(t, "as it is cut", begin, "\x02\x01a\x00\x01", true)
	checkRecord(t, "a cut left out", begin, "\x02\x01a\x02", false)
	begin = head + frameByWords("\x00"+first[:16]) + frameByWords("\x00"+first[16:]+second[:3])
	checkRecord(t, "a cut at another place", begin, "\x02\x01a\x00\x01", false)
	begin = head + frameByWords("\x00"+first[:9]) + frameByWords("\x00"+first[9:])
	checkRecord(t, "a cut more", begin, "\x02\x01a\x00\x01", false)
}

func TestOpenNames(t *testing.T) {
	begin := headByWords(example) + frameByWords("\x02\x01a") + frameByWords("\x00abc") + frameByWords("\x02\x02bb\x00")
	long := "abcdefghijklm"
	for name, right := range map[string]bool{
		"b": true, "z": true, "aa": true, "ab": true, "bbb": true, long[:api.MaxName]: true,
		"": false, "a": false, "bb": false, long: false, strings.Repeat("m", 255): false,
		"A": false, "`": false, "{": false, "a b": false, "a\x00": false, "\xff": false, "é": false, "b1": false,
	} {
		length := string([]byte{byte(len(name))})
		checkRecord(t, "name "+name, begin, "\x02"+length+name, right)
		checkRecord(t, "name "+name+" with a chunk", begin, "\x02"+length+name+"\x00", right)
	}
	checkRecord(t, "no name's length", begin, "\x02", false)
	checkRecord(t, "a name cut short", begin, "\x02\x03xy", false)
	checkRecord(t, "no name at all", begin, "\x02\x01", false)
	checkRecord(t, "a name that is there, with other chunks", begin, "\x02\x01a\x00", false)
}

func TestOpenStreamsOfManyBytes(t *testing.T) {
	c := roomy(20, 20, 1)
	begin := headByWords(c) + frameByWords("\x01\x00\x00\x90\x01") + frameByWords("\x00x") + frameByWords("\x00"+distinct(19))
	most := strings.Repeat("\x00", 100)
	checkRecord(t, "MaxData bytes", begin, "\x02\x01a"+most, true)
	checkRecord(t, "a byte less", begin, "\x02\x01a"+most[1:]+"\x02", true)
	checkRecord(t, "a byte more", begin, "\x02\x01a"+most+"\x01", false)
	checkRecord(t, "a chunk more", begin, "\x02\x01a"+most+"\x00", false)
	checkRecord(t, "very many", begin, "\x02\x01a"+strings.Repeat("\x00", 50000), false)
}

func TestOpenUpToRoom(t *testing.T) {
	streams := ""
	for _, name := range []string{"a", "b", "c", "d", "e", "f"} {
		streams += frameByWords("\x02\x01" + name)
	}
	for room := 100; room <= 127; room++ {
		head := headByWords(api.Config{Min: 16, Max: 20, Bits: 1, Room: room})
		for n := 1; n <= 9; n++ {
			name := "ghijklmno"[:n]
			last := frameByWords("\x02" + string([]byte{byte(n)}) + name)
			kept := head + streams
			if len(kept+last) <= room {
				kept += last
			}
			checkKept(t, "room", head+streams+last, kept)
			checkOpen(t, head+streams+last+frameByWords("\x02\x01z"))
		}
	}
}

// A store that is full to the last byte is opened, and takes nothing more; of
// bytes for more room than the head tells the frames beyond it are left.
func TestOpenFull(t *testing.T) {
	c := api.Config{Min: 16, Max: 40, Bits: 3}
	data := noise(300, 256, 3)
	c.Room = roomFor(c, data)
	s, b := begin(t, c)
	both(t, s, b, "a", data)
	full := open(t, s.Bytes())
	checkStore(t, full, b)
	checkErrno(t, "P9: full", full.Backup("b", ""), api.ErrFull)
	checkKept(t, "full, and a frame more", b.bytes+frameByWords("\x02\x01z"), b.bytes)
	c.Room--
	less := headByWords(c) + b.bytes[len(headByWords(c)):]
	places := ends(t, less)
	checkKept(t, "a byte too many", less, less[:places[len(places)-2]])
}

// records tells what the frames of a store hold.
func records(t *testing.T, bytes string) []string {
	t.Helper()
	var row []string
	from := 0
	for _, end := range ends(t, bytes) {
		row = append(row, bytes[from+6:end-4])
		from = end
	}
	return row
}

// altered brings in, takes out or turns up to three records behind the head.
func altered(row []string, pick string) []string {
	row = slices.Clone(row)
	for k := range int(pick[0]) % 4 {
		at, r := 1+int(pick[k+1])%(len(row)-1), row[1+int(pick[k+9])%(len(row)-1)]
		switch pick[k+20] % 4 {
		case 0:
			row = slices.Insert(row, at, r)
		case 1:
			row[at] = r
		case 2:
			row = slices.Delete(row, at, at+1)
		default:
			b := []byte(row[at])
			b[int(pick[k+30])%len(b)] ^= 1 << (pick[k+35] % 8)
			row[at] = string(b)
		}
	}
	return row
}

// Rows of whole frames with right sums, that are right or not.
func TestOpenAlteredRecords(t *testing.T) {
	s, _ := pantry(t, api.Config{Min: 16, Max: 24, Bits: 1, Room: 1500})
	row := records(t, s.Bytes())
	seen := map[int]int{}
	for seed := range uint32(600) {
		bytes := ""
		for _, r := range altered(row, noise(40, 256, seed)) {
			bytes += frameByWords(r)
		}
		seen[len(bytes)-checkOpen(t, bytes)]++
	}
	if seen[0] < 100 || len(seen) < 100 {
		t.Errorf("of 600 rows %d are kept whole, and %d kinds of ends are seen", seen[0], len(seen))
	}
}

func TestOpenAnyBytes(t *testing.T) {
	for seed := range uint32(300) {
		n := int(seed) * 5
		refuseOpen(t, noise(n, 256, seed))
		refuseOpen(t, noise(n, 2, seed))
		refuseOpen(t, frameByWords(noise(n, 256, seed)))
		refuseOpen(t, frameByWords("LARDER"+noise(n%7, 256, seed)))
		for kind := range 3 {
			r := string([]byte{byte(kind)}) + noise(n%40, 256, seed)
			checkOpen(t, headByWords(example)+frameByWords(r)+frameByWords("\x02\x01a"))
		}
	}
	s, _ := pantry(t, example)
	bytes := s.Bytes()
	for from := range len(bytes) {
		if from > 0 {
			refuseOpen(t, bytes[from:])
		}
		at := int(noise(1, 256, uint32(from))[0])
		checkOpen(t, bytes[:from]+noise(at, 256, uint32(from))+bytes[from:])
		checkOpen(t, bytes[:from]+bytes[min(len(bytes), from+at%20):])
	}
}

func TestOpenedStoresAreApart(t *testing.T) {
	s, b := pantry(t, example)
	bytes := s.Bytes()
	one, other := open(t, bytes), open(t, bytes)
	c := openByWords(bytes)
	both(t, one, c, "new", noise(40, 256, 77))
	checkStore(t, s, b)
	checkStore(t, other, b)
	checkErrno(t, "P11", one.Stop(0), api.OK)
	checkErrno(t, "P11", one.Backup("x", ""), api.ErrDown)
	both(t, other, b, "x", "")
	checkKept(t, "the same bytes again", bytes, bytes)
}

func TestOpenKeepsNoArgument(t *testing.T) {
	s, b := pantry(t, example)
	memory, bytes := own(s.Bytes())
	opened := open(t, bytes)
	for i := range memory {
		memory[i] = 'q'
	}
	checkStore(t, opened, b)
	both(t, opened, b, "new", noise(90, 256, 1)+"new")
}
