// Package frame puts bytes into frames, with sums that show whether they have
// changed, and takes them out.
package frame

// Sum is the CRC-32 of some bytes, the lowest byte first.
type Sum [4]byte

const (
	polynomial = 0xEDB88320 // of the reversed kind
	turned     = 0xFFFFFFFF
)

// SumOf works out the sum of bytes.
func SumOf(s string) Sum {
	crc := uint32(turned)
	for i := range len(s) {
		crc ^= uint32(s[i])
		for range 8 {
			crc = crc>>1 ^ crc&1*polynomial
		}
	}
	crc ^= turned
	return Sum{byte(crc), byte(crc >> 8), byte(crc >> 16), byte(crc >> 24)}
}

const lengthSize = 2 // bytes that tell how long a record is

// Append puts the frame of a record at the end. The record's length must have
// room in two bytes.
func Append(out []byte, record string) []byte {
	long := string([]byte{byte(len(record)), byte(len(record) >> 8)})
	out = appendSummed(out, long)
	return appendSummed(out, record)
}

func appendSummed(out []byte, s string) []byte {
	sum := SumOf(s)
	out = append(out, s...)
	return append(out, sum[:]...)
}

// First gives the record of the frame that s begins with, and tells how many
// bytes the frame takes there; 0 if it is not whole, or a sum is wrong.
func First(s string) (string, int) {
	long, at := firstSummed(s, lengthSize)
	if at == 0 {
		return "", 0
	}
	record, size := firstSummed(s[at:], int(long[0])+int(long[1])<<8)
	if size == 0 {
		return "", 0
	}
	return record, at + size
}

// firstSummed gives the first n bytes of s, and tells how many they are with
// their sum; 0 if this does not follow them.
func firstSummed(s string, n int) (string, int) {
	size := n + len(Sum{})
	if len(s) < size {
		return "", 0
	}
	sum := SumOf(s[:n])
	if s[n:size] != string(sum[:]) {
		return "", 0
	}
	return s[:n], size
}
