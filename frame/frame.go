// Package frame puts bytes into frames, with sums that show whether they have
// changed.
package frame

// Sum is the CRC-32 of some bytes, the lowest byte first.
type Sum [4]byte

const (
	polynomial = 0xEDB88320 // of the reversed kind
	turned     = 0xFFFFFFFF
)

// SumOf works out the sum of bytes.
func SumOf(s string) Sum {
	crc := uint32(turned)
	for i := range len(s) {
		crc ^= uint32(s[i])
		for range 8 {
			crc = crc>>1 ^ crc&1*polynomial
		}
	}
	crc ^= turned
	return Sum{byte(crc), byte(crc >> 8), byte(crc >> 16), byte(crc >> 24)}
}

// Append puts the frame of a record at the end. The record's length must have
// room in two bytes.
func Append(out []byte, record string) []byte {
	long := string([]byte{byte(len(record)), byte(len(record) >> 8)})
	out = appendSummed(out, long)
	return appendSummed(out, record)
}

func appendSummed(out []byte, s string) []byte {
	sum := SumOf(s)
	out = append(out, s...)
	return append(out, sum[:]...)
}
