package cut

import (
	"math/big"
	"slices"
	"strings"
	"sync"
	"testing"

	"larder/api"
)

// divided gives a window's mark by long division of one great number.
func divided(window string) uint32 {
	rest := new(big.Int).SetBytes([]byte(window))
	poly := big.NewInt(1<<31 | 1<<3 | 1)
	for rest.BitLen() > 31 {
		rest.Xor(rest, new(big.Int).Lsh(poly, uint(rest.BitLen()-32)))
	}
	return uint32(rest.Uint64())
}

func noise(n int, seed uint32) string {
	b := make([]byte, n)
	for i := range b {
		seed = seed*1103515245 + 12345
		b[i] = byte(seed >> 16)
	}
	return string(b)
}

func TestMarkOfOneBit(t *testing.T) {
	for bit := range 8 * api.Window {
		window := make([]byte, api.Window)
		window[bit/8] = 0x80 >> (bit % 8)
		if got, want := first(string(window)), divided(string(window)); got != want {
			t.Errorf("bit %d: mark %x, want %x", bit, got, want)
		}
	}
}

func TestMarkGoesAlong(t *testing.T) {
	table := workOut()
	s := noise(3000, 1)
	mark := first(s[:api.Window])
	for p := api.Window; p < len(s); p++ {
		if want := divided(s[p-api.Window : p]); mark != want {
			t.Fatalf("place %d: mark %x, want %x", p, mark, want)
		}
		mark = table.slide(mark, s[p-api.Window], s[p])
	}
}

func TestTableIsWorkedOutWhenAskedFor(t *testing.T) {
	var fresh onceLost
	if fresh.table != (lost{}) {
		t.Error("the table is there before it is asked for")
	}
	answers := make([]lost, 20)
	var all sync.WaitGroup
	for i := range answers {
		all.Go(func() { answers[i] = *fresh.get() })
	}
	all.Wait()
	for i, a := range answers {
		if a != workOut() {
			t.Errorf("asker %d: %x", i, a)
		}
	}
}

func TestTableIsWorkedOutOnce(t *testing.T) {
	var fresh onceLost
	fresh.get()
	fresh.table[1] = 7
	if fresh.get()[1] != 7 {
		t.Error("the table was worked out again")
	}
}

func TestCutterWorksItsTableOutOnce(t *testing.T) {
	c := By(api.Config{Min: 16, Max: 40, Bits: 3, Room: 100})
	c.Places(noise(16, 1))
	if c.marks.table != (lost{}) {
		t.Error("the table is there, though no mark was asked for")
	}
	c.Places(noise(100, 1))
	if c.marks.table != workOut() {
		t.Errorf("the table is %x", c.marks.table)
	}
	c.marks.table[1] = 7
	c.Places(noise(100, 2))
	if c.marks.table[1] != 7 {
		t.Error("the table was worked out again for another stream")
	}
}

func TestOneCutterCutsManyStreams(t *testing.T) {
	config := api.Config{Min: 16, Max: 40, Bits: 3, Room: 100}
	c := By(config)
	for seed := range uint32(20) {
		s := noise(500, seed)
		if got, want := c.Places(s), By(config).Places(s); !slices.Equal(got, want) {
			t.Errorf("stream %d: %v, want %v", seed, got, want)
		}
		if got := strings.Join(c.Chunks(s), ""); got != s {
			t.Errorf("stream %d: the chunks are not the stream", seed)
		}
	}
}
