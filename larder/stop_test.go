package larder_test

import (
	"fmt"
	"math"
	"strings"
	"testing"

	"larder/api"
	"larder/larder"
)

// clone makes a book that goes on by itself.
func (b *book) clone() *book {
	return openByWords(b.bytes)
}

// checkStopped asks all calls of a store that has stopped, twice: the first
// round must change nothing for the second.
func checkStopped(t *testing.T, s *larder.Store, c api.Config, bytes string) {
	t.Helper()
	for range 2 {
		if got := s.Bytes(); got != bytes {
			t.Fatalf("P11: bytes %x, want %x", got, bytes)
		}
		if got := s.Config(); got != c {
			t.Errorf("P11: %+v, want %+v", got, c)
		}
		if list, n := s.List(), s.Chunks(); len(list) != 0 || n != 0 {
			t.Errorf("P10: stopped: %q, %d", list, n)
		}
		for _, name := range []string{"a", "new", "none", "", "A", strings.Repeat("m", 1000)} {
			if data, e := s.Restore(name); data != "" || e != api.ErrDown {
				t.Errorf("P10: stopped: Restore(%q): %q, %d", name, data, e)
			}
			for _, data := range []string{"", "data", noise(api.MaxData+1, 256, 1)} {
				checkErrno(t, "P9: stopped", s.Backup(name, data), api.ErrDown)
			}
		}
		for _, after := range []int{0, -1, 1, 1000, math.MaxInt, math.MinInt} {
			checkErrno(t, "P11: stopped", s.Stop(after), api.ErrDown)
		}
	}
}

func stop(t *testing.T, s *larder.Store, after int) {
	t.Helper()
	checkErrno(t, fmt.Sprintf("P11: Stop(%d)", after), s.Stop(after), api.OK)
}

type backup struct{ name, data string }

var backups = []backup{
	{"a", "first"}, {"b", noise(50, 256, 1)}, {"c", ""}, {"d", noise(50, 256, 1) + zeros(40)}, {"e", "firs" + noise(30, 2, 7)},
}

// written tells how many bytes are written when none, one, two .. of the
// backups are done, and the bytes when all are.
func written(t *testing.T, c api.Config) ([]int, string) {
	t.Helper()
	s, b := begin(t, c)
	first := len(b.bytes)
	counts := []int{0}
	for _, x := range backups {
		if e := both(t, s, b, x.name, x.data); e != api.OK {
			t.Fatalf("%q: %d", x.name, e)
		}
		counts = append(counts, len(b.bytes)-first)
	}
	return counts, b.bytes
}

// Of a row of backups those are done that end by then, the next one answers
// ErrDown, and until then the store goes on as if there were no Stop.
func TestStopAnywhere(t *testing.T) {
	counts, all := written(t, example)
	total := counts[len(counts)-1]
	for after := range total + 3 {
		s, b := begin(t, example)
		stop(t, s, after)
		checkStore(t, s, b)
		for i, x := range backups {
			if counts[i+1] <= after {
				both(t, s, b, x.name, x.data)
				continue
			}
			checkErrno(t, fmt.Sprintf("P11: %q after %d", x.name, after), s.Backup(x.name, x.data), api.ErrDown)
			checkStopped(t, s, example, all[:len(headByWords(example))+after])
			break
		}
	}
}

func TestStopBelowZero(t *testing.T) {
	for _, after := range []int{0, -1, -13, math.MinInt} {
		s, b := begin(t, example)
		both(t, s, b, "a", "first")
		stop(t, s, after)
		checkStore(t, s, b)
		checkErrno(t, "P11", s.Backup("b", ""), api.ErrDown)
		checkStopped(t, s, example, b.bytes)
	}
}

func TestStopFarOff(t *testing.T) {
	for _, after := range []int{100000, math.MaxInt - 1, math.MaxInt} {
		s, b := begin(t, example)
		stop(t, s, after)
		for k := range 90 {
			both(t, s, b, string([]byte{'a' + byte(k%26), 'a' + byte(k/26)}), "")
		}
		checkErrno(t, "P9", s.Backup("zzz", ""), api.ErrFull)
	}
}

// A stream without chunks takes 13 bytes.
func TestStopAtTheEndOfABackup(t *testing.T) {
	for more := range 15 {
		s, b := begin(t, example)
		stop(t, s, 13+more)
		checkErrno(t, "P11: ends just there", both(t, s, b, "a", ""), api.OK)
		e := api.ErrDown
		if more >= 13 {
			e = api.OK
		}
		next := b.clone()
		next.backup("b", "")
		checkErrno(t, "P11: another one", s.Backup("b", ""), e)
		if e == api.OK {
			checkStore(t, s, next)
			continue
		}
		checkStopped(t, s, example, next.bytes[:len(b.bytes)+more])
	}
}

func TestLaterStop(t *testing.T) {
	for _, c := range []struct{ first, then, left int }{
		{0, 13, 13}, {0, 5, 5}, {-7, 20, 20}, {20, 0, 0}, {20, 5, 5}, {5, 20, 20}, {100, -100, 0}, {math.MaxInt, 1, 1}, {7, 7, 7},
	} {
		s, b := begin(t, example)
		stop(t, s, c.first)
		stop(t, s, c.then)
		next := b.clone()
		next.backup("a", "")
		if c.left >= 13 {
			both(t, s, b, "a", "")
			next.backup("b", "")
			c.left -= 13
		}
		checkErrno(t, "P11", s.Backup(next.names()[len(next.names())-1], ""), api.ErrDown)
		checkStopped(t, s, example, next.bytes[:len(b.bytes)+c.left])
	}
}

// A later Stop counts from where it is asked for, also when the earlier one is
// reached to the byte.
func TestLaterStopBehindABackup(t *testing.T) {
	for _, first := range []int{13, 14, 30, 1000} {
		s, b := begin(t, example)
		stop(t, s, first)
		both(t, s, b, "a", "")
		stop(t, s, 20)
		both(t, s, b, "b", "")
		next := b.clone()
		next.backup("c", "")
		checkErrno(t, "P11", s.Backup("c", ""), api.ErrDown)
		checkStopped(t, s, example, next.bytes[:len(b.bytes)+7])
	}
}

// A Backup that is refused would write nothing, and so it stops no store.
func TestRefusedBackupsStopNothing(t *testing.T) {
	c := api.Config{Min: 16, Max: 20, Bits: 1, Room: 100}
	for _, after := range []int{0, 1, 12} {
		s, b := begin(t, c)
		both(t, s, b, "a", "abc")
		stop(t, s, after)
		for range 2 {
			checkErrno(t, "P9: name", s.Backup("A", "x"), api.ErrName)
			checkErrno(t, "P9: name, too big", s.Backup("", noise(3000, 256, 1)), api.ErrName)
			checkErrno(t, "P9: there", s.Backup("a", "x"), api.ErrThere)
			checkErrno(t, "P9: there, full", s.Backup("a", noise(500, 256, 1)), api.ErrThere)
			checkErrno(t, "P9: too big", s.Backup("b", noise(api.MaxData+1, 256, 1)), api.ErrBig)
			checkErrno(t, "P9: full", s.Backup("b", noise(500, 256, 1)), api.ErrFull)
			if _, e := s.Restore("b"); e != api.ErrNone {
				t.Errorf("P10: %d", e)
			}
			checkStore(t, s, b)
		}
		next := b.clone()
		next.backup("b", "")
		checkErrno(t, "P11", s.Backup("b", ""), api.ErrDown)
		checkStopped(t, s, c, next.bytes[:len(b.bytes)+after])
	}
}

func TestStopIsOfOneStore(t *testing.T) {
	one, a := begin(t, example)
	other, b := begin(t, example)
	stop(t, one, 0)
	both(t, other, b, "a", "data")
	checkErrno(t, "P11", one.Backup("a", "data"), api.ErrDown)
	both(t, other, b, "b", "more data")
	checkStopped(t, one, example, a.bytes)
}

// What a store had asked for by Stop is not in its bytes.
func TestOpenedDoesNotStop(t *testing.T) {
	s, b := begin(t, example)
	stop(t, s, 0)
	both(t, open(t, s.Bytes()), b.clone(), "a", "data")
	checkErrno(t, "P11", s.Backup("a", "data"), api.ErrDown)
	again := open(t, s.Bytes())
	both(t, again, b, "a", "data")
	stop(t, again, 3)
	checkErrno(t, "P11", again.Backup("b", ""), api.ErrDown)
	checkStopped(t, again, example, b.bytes+frameByWords("\x02\x01b")[:3])
}

// journal is a book that can stop.
type journal struct {
	*book
	left    int
	stopped bool
}

func (j *journal) backup(name, data string) api.Errno {
	_, there := j.streams[name]
	if j.stopped {
		return api.ErrDown
	}
	if !nameByWords(name) {
		return api.ErrName
	}
	if there {
		return api.ErrThere
	}
	if len(data) > api.MaxData {
		return api.ErrBig
	}
	next := j.clone()
	if e := next.backup(name, data); e != api.OK {
		return e
	}
	n := len(next.bytes) - len(j.bytes)
	if n > j.left {
		j.bytes, j.stopped = next.bytes[:len(j.bytes)+j.left], true
		return api.ErrDown
	}
	j.book, j.left = next, j.left-n
	return api.OK
}

// Rows of calls, right and wrong ones, on one store.
func TestManyCallsByTheWords(t *testing.T) {
	names := []string{"a", "b", "cc", "dddddddddddd", "eeeeeeeeeeeee", "", "F", "g", "h", "i"}
	seen := map[api.Errno]int{}
	for seed := range uint32(300) {
		c := api.Config{Min: 16, Max: 30, Bits: 2, Room: 300 + int(seed)}
		s, b := begin(t, c)
		j := &journal{book: b, left: math.MaxInt}
		for k := range 25 {
			pick := noise(3, 256, seed*100+uint32(k))
			if pick[0] < 50 {
				stop(t, s, int(pick[1])-20)
				j.left = max(int(pick[1])-20, 0)
				continue
			}
			name, data := names[int(pick[0])%len(names)], noise(int(pick[1])*9/2, 256, uint32(pick[2])%3)
			if pick[2] < 10 {
				data = noise(api.MaxData+1, 256, 1)
			}
			e := j.backup(name, data)
			seen[e]++
			checkErrno(t, "P9: "+name, s.Backup(name, data), e)
			if j.stopped {
				checkStopped(t, s, c, j.bytes)
				s, j = open(t, s.Bytes()), &journal{book: openByWords(s.Bytes()), left: math.MaxInt}
			}
			checkStore(t, s, j.book)
		}
	}
	for _, e := range []api.Errno{api.OK, api.ErrDown, api.ErrName, api.ErrThere, api.ErrBig, api.ErrFull} {
		if seen[e] < 50 {
			t.Errorf("answer %d is seen only %d times", e, seen[e])
		}
	}
}

// Wherever a Backup stops: in the store that is opened then its stream is there
// whole or not at all, the others are as they were, and it can be done again.
func TestBackupAgainBehindAStop(t *testing.T) {
	for _, c := range []api.Config{roomy(16, 16, 1), roomy(16, 40, 2), roomy(30, 200, 5)} {
		_, ahead := pantry(t, c)
		data := noise(60, 256, 5) + zeros(60) + noise(90, 256, 1) + noise(60, 2, 9)
		whole := ahead.clone()
		if e := whole.backup("new", data); e != api.OK {
			t.Fatal(e)
		}
		n := len(whole.bytes) - len(ahead.bytes)
		for after := range n + 1 {
			s := open(t, ahead.bytes)
			stop(t, s, after)
			e := s.Backup("new", data)
			if want := whole.bytes[:len(ahead.bytes)+after]; s.Bytes() != want {
				t.Fatalf("P11: %x, want %x", s.Bytes(), want)
			}
			checkAgain(t, open(t, s.Bytes()), ahead, whole, e == api.OK)
		}
	}
}

func checkAgain(t *testing.T, s *larder.Store, ahead, whole *book, done bool) {
	t.Helper()
	for name, data := range ahead.streams {
		checkRestore(t, s, name, data)
	}
	if done {
		checkStore(t, s, whole)
		return
	}
	if data, e := s.Restore("new"); data != "" || e != api.ErrNone {
		t.Errorf("P13: a part of a stream is there: %q, %d", data, e)
	}
	if got := len(s.List()); got != len(ahead.streams) {
		t.Errorf("P13: %d streams, want %d", got, len(ahead.streams))
	}
	checkErrno(t, "P13", s.Backup("new", whole.streams["new"]), api.OK)
	checkStore(t, s, whole)
}

// turn turns, from a bit on, those bits that pattern says. Of each byte the
// lowest bit is the first.
func turn(bytes string, from int, pattern uint32) string {
	b := []byte(bytes)
	for i := range 32 {
		if at := from + i; pattern>>i&1 == 1 && at < 8*len(b) {
			b[at/8] ^= 1 << (at % 8)
		}
	}
	return string(b)
}

// patterns of up to 32 bits, the first of them turned.
var patterns = []uint32{
	1, 3, 0xff, 0xffff, 0x10001, 0x80000001, 0xffffffff, 0xedb88321, 0x04c11db7, 0xdb710641, 0x82608edb, 0xaaaaaaab, 0x01010101, 0x8badf00d,
}

func TestTurnedBits(t *testing.T) {
	s, b := pantry(t, example)
	bytes := s.Bytes()
	places := ends(t, bytes)
	for from := range 8 * len(bytes) {
		for _, pattern := range append(patterns, uint32(from)*2654435761|1) {
			turned := turn(bytes, from, pattern)
			last := lastEnd(places, from/8)
			if last == 0 {
				refuseOpen(t, turned)
				continue
			}
			checkNothingElse(t, open(t, turned), b, bytes[:last])
		}
	}
}

// checkNothingElse asks a store for the streams that are there: they must be as
// they were kept.
func checkNothingElse(t *testing.T, s *larder.Store, b *book, bytes string) {
	t.Helper()
	if got := s.Bytes(); got != bytes {
		t.Errorf("P16: kept %x, want %x", got, bytes)
	}
	for _, name := range s.List() {
		want, there := b.streams[name]
		if got, e := s.Restore(name); !there || got != want || e != api.OK {
			t.Errorf("P16: %q: %q, %d, want %q", name, got, e, want)
		}
	}
}

// Bits turned in what a Backup that stopped has left.
func TestTurnedBitsBehindAStop(t *testing.T) {
	s, b := pantry(t, example)
	before := s.Bytes()
	stop(t, s, 60)
	checkErrno(t, "P11", s.Backup("new", noise(90, 256, 8)), api.ErrDown)
	bytes := s.Bytes()
	if len(bytes) != len(before)+60 {
		t.Fatalf("P11: %d bytes more, want 60", len(bytes)-len(before))
	}
	for from := 8 * len(before); from < 8*len(bytes); from++ {
		for _, pattern := range patterns {
			opened := open(t, turn(bytes, from, pattern))
			checkNothingElse(t, opened, b, opened.Bytes())
			if len(opened.List()) != len(b.streams) {
				t.Errorf("P16: %q, want %q", opened.List(), b.names())
			}
		}
	}
}
