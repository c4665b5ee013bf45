package larder_test

import (
	"slices"
	"strings"
	"sync"
	"testing"

	"larder/api"
	"larder/larder"
)

// noise makes bytes that look like any, each below kinds.
func noise(n int, kinds int, seed uint32) string {
	b := make([]byte, n)
	for i := range b {
		seed = seed*1103515245 + 12345
		b[i] = byte(int(seed>>16) % kinds)
	}
	return string(b)
}

func zeros(n int) string { return strings.Repeat("\x00", n) }

// markAt divides the bits ahead of a place, one after the other.
func markAt(s string, place int) uint64 {
	rest := uint64(0)
	for _, b := range []byte(s[place-api.Window : place]) {
		for bit := 7; bit >= 0; bit-- {
			rest = rest*2 + uint64(b>>bit)%2
			if rest >= 1<<31 {
				rest ^= 1<<31 + 1<<3 + 1
			}
		}
	}
	return rest
}

// cutsByWords asks of each place whether the document cuts there.
func cutsByWords(s string, c api.Config) []int {
	var places []int
	last := 0
	for place := 1; place <= len(s); place++ {
		long := place - last
		marked := long >= c.Min && (markAt(s, place)+1)%(1<<c.Bits) == 0
		if marked || long == c.Max || place == len(s) {
			places = append(places, place)
			last = place
		}
	}
	return places
}

func checkCuts(t *testing.T, s string, c api.Config, want []int) {
	t.Helper()
	got, e := larder.Cuts(s, c)
	if e != api.OK || !slices.Equal(got, want) {
		t.Errorf("P3: %d bytes, %+v: %v, %d, want %v", len(s), c, got, e, want)
	}
}

func refuseCuts(t *testing.T, s string, c api.Config, want api.Errno) {
	t.Helper()
	if got, e := larder.Cuts(s, c); len(got) != 0 || e != want {
		t.Errorf("P3: %d bytes, %+v: %v, %d, want error %d", len(s), c, got, e, want)
	}
}

func TestCutsExamples(t *testing.T) {
	c := api.Config{Min: 16, Max: 20, Bits: 1, Room: 1000}
	checkCuts(t, zeros(16), c, []int{16})
	checkCuts(t, zeros(15)+"\x01"+"more", c, []int{16, 20})
}

func TestCutsEdges(t *testing.T) {
	c := api.Config{Min: 18, Max: 24, Bits: 2, Room: 100}
	checkCuts(t, "", c, nil)
	checkCuts(t, "x", c, []int{1})
	checkCuts(t, zeros(17), c, []int{17})
	checkCuts(t, zeros(23), c, []int{23})
	checkCuts(t, zeros(24), c, []int{24})
	checkCuts(t, zeros(25), c, []int{24, 25})
	checkCuts(t, zeros(48), c, []int{24, 48})
	// a mark of 3: one byte too early to count, just at Min, at the end, past Max
	checkCuts(t, zeros(16)+"\x03"+zeros(10), c, []int{24, 27})
	checkCuts(t, zeros(17)+"\x03"+zeros(9), c, []int{18, 27})
	checkCuts(t, zeros(19)+"\x03", c, []int{20})
	checkCuts(t, zeros(24)+"\x03"+zeros(5), c, []int{24, 30})
	// of the two lowest bits only one is set
	checkCuts(t, zeros(18)+"\x01"+zeros(8), c, []int{24, 27})
	checkCuts(t, zeros(18)+"\x02"+zeros(8), c, []int{24, 27})
}

func TestCutsByTheWords(t *testing.T) {
	for _, min := range []int{16, 17, 31, 64, 200} {
		for _, more := range []int{0, 1, 9, 50, 136} {
			for bits := 1; bits <= api.MaxBits; bits++ {
				for _, kinds := range []int{2, 256} {
					c := api.Config{Min: min, Max: min + more, Bits: bits, Room: 60000}
					if c.Max > api.MaxChunk {
						continue
					}
					s := noise(1000+bits, kinds, uint32(min*more+bits))
					checkCuts(t, s, c, cutsByWords(s, c))
				}
			}
		}
	}
}

func TestCutsRefused(t *testing.T) {
	good := api.Config{Min: 16, Max: 200, Bits: 12, Room: 60000}
	full := strings.Repeat("x", api.MaxData)
	checkCuts(t, full, good, cutsByWords(full, good))
	refuseCuts(t, full+"x", good, api.ErrBig)
	for _, c := range beyondThem {
		refuseCuts(t, "", c, api.ErrConfig)
		refuseCuts(t, full+"x", c, api.ErrConfig)
	}
}

func TestCutsAnswerIsNewMemory(t *testing.T) {
	c := api.Config{Min: 16, Max: 40, Bits: 3, Room: 100}
	s := noise(900, 256, 3)
	want := cutsByWords(s, c)
	a, _ := larder.Cuts(s, c)
	b, _ := larder.Cuts(s, c)
	a = a[:cap(a)]
	for i := range a {
		a[i] = -1
	}
	if !slices.Equal(b, want) {
		t.Errorf("P2: an answer changed with another: %v, want %v", b, want)
	}
	checkCuts(t, s, c, want)
}

func TestCutsAskedAtOnce(t *testing.T) {
	c := api.Config{Min: 16, Max: 60, Bits: 4, Room: 100}
	s := noise(1500, 256, 8)
	want := cutsByWords(s, c)
	var all sync.WaitGroup
	for range 20 {
		all.Go(func() { checkCuts(t, s, c, want) })
	}
	all.Wait()
}

// inStretch tells the cuts that lie in a stretch, told from where it begins,
// without the one at the stream's end.
func inStretch(t *testing.T, s string, c api.Config, from, long int) []int {
	t.Helper()
	places, e := larder.Cuts(s, c)
	if e != api.OK {
		t.Fatalf("P14: error %d", e)
	}
	var in []int
	for _, p := range places {
		if p >= from && p <= from+long && p != len(s) {
			in = append(in, p-from)
		}
	}
	return in
}

// meet tells the first place that two rising lists share.
func meet(a, b []int) (int, bool) {
	for _, p := range a {
		if slices.Contains(b, p) {
			return p, true
		}
	}
	return 0, false
}

// fromOn leaves out what lies ahead of a place or past the last one.
func fromOn(places []int, from, last int) []int {
	return slices.DeleteFunc(slices.Clone(places), func(p int) bool { return p < from || p > last })
}

func TestCutsMeetInACommonStretch(t *testing.T) {
	c := api.Config{Min: 16, Max: 80, Bits: 4, Room: 100}
	met := 0
	for k := range 60 {
		seed := uint32(k)
		stretch := noise(900, 256, seed)
		head, other := noise(5*k, 256, seed+1000), noise(400-3*k, 256, seed+2000)
		tail := noise(7*k%50, 256, seed+3000)
		a := inStretch(t, head+stretch, c, len(head), len(stretch))
		b := inStretch(t, other+stretch+tail, c, len(other), len(stretch))
		from, ok := meet(a, b)
		if !ok {
			continue
		}
		met++
		// at the stretch's end the first stream ends, and its cut is no witness
		a, b = fromOn(a, from, len(stretch)-1), fromOn(b, from, len(stretch)-1)
		if !slices.Equal(a, b) {
			t.Errorf("P14: case %d: from %d on %v and %v", k, from, a, b)
		}
	}
	if met < 50 {
		t.Errorf("P14: only %d of 60 pairs are cut at one place", met)
	}
}

func TestOneByteChangedMovesFewCuts(t *testing.T) {
	c := api.Config{Min: 16, Max: 80, Bits: 4, Room: 100}
	s := noise(1800, 256, 77)
	before := inStretch(t, s, c, 0, len(s))
	after := inStretch(t, s[:600]+"!"+s[601:], c, 0, len(s))
	same := func(p int) bool { return slices.Contains(after, p) }
	moved := len(slices.DeleteFunc(slices.Clone(before), same))
	if len(before) < 30 || moved > 10 {
		t.Errorf("P14: of %d cuts %d have moved", len(before), moved)
	}
}
