// Package pack tells bytes in fewer where they repeat themselves.
package pack

import "larder/api"

const (
	mostPlain = 128 // plain bytes that are told together
	matchBase = 128 // the first byte of a match of Least bytes
)

// Pack packs bytes.
func Pack(s string) string {
	var out []byte
	told, at := 0, 0
	for at < len(s) {
		n, back := longest(s, at)
		if n == 0 {
			at++
			continue
		}
		out = tellPlain(out, s[told:at])
		out = append(out, byte(matchBase+n-api.Least), byte(back))
		at += n
		told = at
	}
	return string(tellPlain(out, s[told:]))
}

// longest tells how long the longest match at a place is, and how far back the
// nearest of that length begins; 0 and 0 if there is none.
func longest(s string, at int) (int, int) {
	best, nearest := 0, 0
	for back := 1; back <= min(at, api.Far); back++ {
		if n := alike(s, at-back, at); n >= api.Least && n > best {
			best, nearest = n, back
		}
	}
	return best, nearest
}

// alike counts the bytes that are the same from two places on, up to Longest.
func alike(s string, from, at int) int {
	most := min(api.Longest, len(s)-at)
	n := 0
	for n < most && s[from+n] == s[at+n] {
		n++
	}
	return n
}

func tellPlain(out []byte, s string) []byte {
	for len(s) > 0 {
		n := min(len(s), mostPlain)
		out = append(out, byte(n-1))
		out = append(out, s[:n]...)
		s = s[n:]
	}
	return out
}
