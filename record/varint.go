package record

const (
	group = 7 // bits in a byte of a varint
	more  = 1 << group
	// No number in a store takes more bytes: four hold MaxStore many times over.
	mostBytes = 4
)

// appendVarint puts a number, 0 or more, at the end as a varint.
func appendVarint(out []byte, n int) []byte {
	for n >= more {
		out = append(out, byte(n%more+more))
		n /= more
	}
	return append(out, byte(n))
}

// readVarints gives the numbers of varints, one behind the other; false if s is
// not made of these.
func readVarints(s string) ([]int, bool) {
	var numbers []int
	for len(s) > 0 {
		n, used := readVarint(s)
		if used == 0 {
			return nil, false
		}
		numbers = append(numbers, n)
		s = s[used:]
	}
	return numbers, true
}

// readVarint gives the number that s begins with, and tells how many bytes it
// takes there; 0 if it does not end, could be told shorter or is too great.
func readVarint(s string) (int, int) {
	n := 0
	for i := range min(len(s), mostBytes) {
		n += int(s[i]%more) << (group * i)
		if s[i] >= more {
			continue
		}
		if s[i] == 0 && i > 0 {
			break
		}
		return n, i + 1
	}
	return 0, 0
}
