package cut

import "larder/api"

// Places tells where data is cut, rising. The configuration must be Allowed.
func Places(data string, c api.Config) []int {
	var places []int
	for last := 0; last < len(data); {
		last = next(data, last, c)
		places = append(places, last)
	}
	return places
}

// next tells the cut that follows the one at last. Marks are begun anew behind
// each cut: no window reaches back over it, as Min is no less than Window.
func next(data string, last int, c api.Config) int {
	end := min(last+c.Max, len(data))
	place := last + c.Min
	if place >= end {
		return end
	}
	ones := uint32(1)<<c.Bits - 1
	table := marks.get()
	mark := first(data[place-api.Window : place])
	for ; place < end; place++ {
		if mark&ones == ones {
			return place
		}
		mark = table.slide(mark, data[place-api.Window], data[place])
	}
	return end
}
