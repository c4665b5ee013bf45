package cut

import (
	"sync"

	"larder/api"
)

const (
	degree  = 31            // of the polynomial x^31 + x^3 + 1
	allBits = 1<<degree - 1 // of a mark
	half    = 4             // bits that a mark goes along at a time
	lowHalf = 1<<half - 1
)

// lost tells, for half a byte that falls out of the window, what it had
// brought to the mark: its rest after a whole window has followed it. Half
// bytes, not bytes, are taken so that the table is small.
type lost [1 << half]uint32

// onceLost works its table out once, when it is first asked for.
type onceLost struct {
	once  sync.Once
	table lost
}

func (o *onceLost) get() *lost {
	o.once.Do(func() { o.table = workOut() })
	return &o.table
}

func workOut() lost {
	var t lost
	for bits := range t {
		mark := uint32(bits)
		for range api.Window * 8 / half {
			mark = push(mark, 0)
		}
		t[bits] = mark
	}
	return t
}

// push gives the rest when half a byte more stands behind what made the mark.
func push(mark uint32, bits byte) uint32 {
	// x^31 and x^3 + 1 have the same rest; the bits that go over are so few
	// that this one step is enough.
	over := mark >> (degree - half)
	return mark<<half&allBits ^ over ^ over<<3 ^ uint32(bits)
}

// first gives the mark of a window, from nothing.
func first(window string) uint32 {
	mark := uint32(0)
	for i := range len(window) {
		mark = push(mark, window[i]>>half)
		mark = push(mark, window[i]&lowHalf)
	}
	return mark
}

// slide gives the mark one place on: the byte out leaves the window, in enters.
func (t *lost) slide(mark uint32, out, in byte) uint32 {
	mark = push(mark, in>>half) ^ t[out>>half]
	return push(mark, in&lowHalf) ^ t[out&lowHalf]
}
