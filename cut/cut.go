package cut

import "larder/api"

// Cutter cuts streams by one configuration. It holds the table of marks, so
// that all streams that one Cutter cuts need it worked out only once.
type Cutter struct {
	config api.Config
	marks  onceLost
}

// By makes a Cutter. The configuration must be Allowed.
func By(c api.Config) *Cutter {
	return &Cutter{config: c}
}

// Places tells where data is cut, rising.
func (c *Cutter) Places(data string) []int {
	var places []int
	for last := 0; last < len(data); {
		last = c.next(data, last)
		places = append(places, last)
	}
	return places
}

// Chunks tells what lies between the cuts. They share data's memory.
func (c *Cutter) Chunks(data string) []string {
	var chunks []string
	last := 0
	for _, place := range c.Places(data) {
		chunks = append(chunks, data[last:place])
		last = place
	}
	return chunks
}

// next tells the cut that follows the one at last. Marks are begun anew behind
// each cut: no window reaches back over it, as Min is no less than Window.
func (c *Cutter) next(data string, last int) int {
	end := min(last+c.config.Max, len(data))
	place := last + c.config.Min
	if place >= end {
		return end
	}
	ones := uint32(1)<<c.config.Bits - 1
	table := c.marks.get()
	mark := first(data[place-api.Window : place])
	for ; place < end; place++ {
		if mark&ones == ones {
			return place
		}
		mark = table.slide(mark, data[place-api.Window], data[place])
	}
	return end
}
