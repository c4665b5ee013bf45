package record

const (
	group = 7 // bits in a byte of a varint
	more  = 1 << group
)

// appendVarint puts a number, 0 or more, at the end as a varint.
func appendVarint(out []byte, n int) []byte {
	for n >= more {
		out = append(out, byte(n%more+more))
		n /= more
	}
	return append(out, byte(n))
}
