package pack

import "larder/api"

// Unpack gives the bytes, at most MaxData, that Pack packs as s; false if there
// are none.
func Unpack(s string) (string, bool) {
	data, ok := read(s)
	// The same bytes may be told in many ways, and Pack gives one of them.
	if !ok || Pack(data) != s {
		return "", false
	}
	return data, true
}

// read follows the parts of s, whether Pack would have told them so or not.
func read(s string) (string, bool) {
	var out []byte
	for len(s) > 0 {
		var used int
		out, used = readPart(out, s)
		if used == 0 || len(out) > api.MaxData {
			return "", false
		}
		s = s[used:]
	}
	return string(out), true
}

// readPart reads the first part of s, and tells how many bytes it takes there;
// 0 if it is none.
func readPart(out []byte, s string) ([]byte, int) {
	if s[0] < matchBase {
		used := int(s[0]) + 2
		if used > len(s) {
			return out, 0
		}
		return append(out, s[1:used]...), used
	}
	if len(s) < 2 {
		return out, 0
	}
	back := int(s[1])
	if back == 0 || back > len(out) {
		return out, 0
	}
	// Byte by byte, as a match may reach into what it makes itself.
	for range int(s[0]) - matchBase + api.Least {
		out = append(out, out[len(out)-back])
	}
	return out, 2
}
