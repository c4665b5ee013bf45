package larder_test

import (
	"strings"
	"testing"

	"larder/api"
	"larder/larder"
)

// matchByWords tries the longest first, and of each length the nearest first.
func matchByWords(s string, at int) (n, back int) {
	for n = min(api.Longest, len(s)-at); n >= api.Least; n-- {
		for back = 1; back <= api.Far && back <= at; back++ {
			if s[at-back:at-back+n] == s[at:at+n] {
				return n, back
			}
		}
	}
	return 0, 0
}

func packByWords(s string) string {
	out, plain := "", ""
	flush := func() {
		if plain != "" {
			out += string([]byte{byte(len(plain) - 1)}) + plain
		}
		plain = ""
	}
	for at := 0; at < len(s); {
		n, back := matchByWords(s, at)
		if n > 0 {
			flush()
			out += string([]byte{byte(128 + n - api.Least), byte(back)})
			at += n
			continue
		}
		plain += s[at : at+1]
		at++
		if len(plain) == 128 {
			flush()
		}
	}
	flush()
	return out
}

func checkPack(t *testing.T, s, want string) {
	t.Helper()
	if got, e := larder.Pack(s); got != want || e != api.OK {
		t.Errorf("P4: %q: %q, %d, want %q", s, got, e, want)
	}
	if got, e := larder.Unpack(want); got != s || e != api.OK {
		t.Errorf("P5: %q: %q, %d, want %q", want, got, e, s)
	}
}

func refuseUnpack(t *testing.T, s string) {
	t.Helper()
	if got, e := larder.Unpack(s); got != "" || e != api.ErrBytes {
		t.Errorf("P5: %q: %q, %d", s, got, e)
	}
}

// distinct makes bytes in which no three repeat within a match's reach.
func distinct(n int) string {
	b := make([]byte, n)
	for i := range b {
		b[i] = byte(i%2*(i/2/100) + (1-i%2)*(i/2%100+100))
	}
	return string(b)
}

func TestPackExamples(t *testing.T) {
	checkPack(t, "", "")
	checkPack(t, "abc", "\x02abc")
	checkPack(t, "aaaa", "\x00a\x80\x01")
	checkPack(t, "abcabcabcd", "\x02abc\x83\x03\x00d")
}

func TestPackMatches(t *testing.T) {
	// two bytes are too few, three are enough
	checkPack(t, "abXab", "\x04abXab")
	checkPack(t, "abcXabc", "\x03abcX\x80\x04")
	// of two as long the nearest, but a longer one that is farther goes ahead
	checkPack(t, "abcXabcYabcZ", "\x03abcX\x80\x04\x00Y\x80\x04\x00Z")
	checkPack(t, "abcdXabcYabcd", "\x04abcdX\x80\x05\x00Y\x81\x09")
	// the match here is told, though one byte on there is a longer one
	checkPack(t, "abcXbcdefYabcdef", "\x09abcXbcdefY\x80\x0a\x80\x07")
}

func TestPackLongest(t *testing.T) {
	checkPack(t, strings.Repeat("z", 130), "\x00z\xfe\x01")
	checkPack(t, strings.Repeat("z", 131), "\x00z\xff\x01")
	checkPack(t, strings.Repeat("z", 133), "\x00z\xff\x01\x01zz")
	checkPack(t, strings.Repeat("z", 134), "\x00z\xff\x01\x80\x01")
	// 131 bytes come again; the match ends at Longest, and the last byte is plain
	half := distinct(131)
	checkPack(t, half+half, "\x7f"+half[:128]+"\x02"+half[128:]+"\xff\x83\x00"+half[130:])
}

func TestPackReach(t *testing.T) {
	for _, back := range []int{254, 255, 256} {
		s := "@#~" + distinct(back-3) + "@#~"
		want := "\x7f" + s[:128] + string([]byte{byte(back - 129)}) + s[128:back]
		if back <= api.Far {
			want += string([]byte{0x80, byte(back)})
		} else {
			want = "\x7f" + s[:128] + "\x7f" + s[128:256] + "\x02@#~"
		}
		checkPack(t, s, want)
	}
}

func TestPackPlain(t *testing.T) {
	for _, n := range []int{1, 127, 128, 129, 256, 257} {
		s := distinct(n)
		want := ""
		for rest := s; rest != ""; rest = rest[min(128, len(rest)):] {
			part := rest[:min(128, len(rest))]
			want += string([]byte{byte(len(part) - 1)}) + part
		}
		checkPack(t, s, want)
	}
}

func TestPackByTheWords(t *testing.T) {
	for seed := range 40 {
		for _, kinds := range []int{1, 2, 3, 5, 17, 256} {
			s := noise(10*seed, kinds, uint32(seed))
			checkPack(t, s, packByWords(s))
			again := s + "-" + s[len(s)/3:] + s[:len(s)/2]
			checkPack(t, again, packByWords(again))
		}
	}
}

func TestPackBig(t *testing.T) {
	full := noise(api.MaxData, 4, 6)
	checkPack(t, full, packByWords(full))
	full = noise(api.MaxData, 256, 6)
	checkPack(t, full, packByWords(full))
	for _, s := range []string{full + "x", strings.Repeat("x", 100000)} {
		if got, e := larder.Pack(s); got != "" || e != api.ErrBig {
			t.Errorf("P4: %d bytes: %d bytes, %d", len(s), len(got), e)
		}
	}
}

func TestUnpackBig(t *testing.T) {
	runs := "\x00z" + strings.Repeat("\xff\x01", 15) // 1951 bytes
	checkPack(t, strings.Repeat("z", 2000), runs+"\xae\x01")
	refuseUnpack(t, runs+"\xaf\x01")
	refuseUnpack(t, runs+strings.Repeat("\xff\x01", 100000))
	refuseUnpack(t, packByWords(distinct(2001)))
}

func TestUnpackWrong(t *testing.T) {
	for _, s := range []string{
		"\x00", "\x01a", "\x7f" + distinct(127), // too few plain bytes
		"\x80", "\x00a\x80", // a match without its second byte
		"\x80\x01", "\x00a\x80\x02", "\x00a\x80\x00", // begins ahead of all, or here
		"\x00a\x00b", "\x00a\x01bc\x00d", // plain bytes not told together
		"\x7f" + distinct(128) + "\x00" + distinct(130)[128:129] + "\x00" + distinct(130)[129:],
		"\x03aaaa",                      // a match told as plain bytes
		"\x00a\x80\x01\x80\x01",         // one match told as two
		"\x00a\x80\x01\x01aa",           // a match that ends too soon
		"\x03abcX\x80\x04\x00Y\x80\x08", // not the nearest
	} {
		refuseUnpack(t, s)
	}
}

// What was right so far is wrong when the next byte shows a longer match.
func TestUnpackNotTheLongest(t *testing.T) {
	s := "\x04abcdX\x80\x05\x00Y\x80\x04"
	checkPack(t, "abcdXabcYabc", s)
	refuseUnpack(t, s+"\x00d")
}

// grow calls see with every string of the letters, up to so many bytes.
func grow(s, letters string, most int, see func(string)) {
	see(s)
	if len(s) == most {
		return
	}
	for i := range len(letters) {
		grow(s+letters[i:i+1], letters, most, see)
	}
}

// Whatever short string Unpack is given, it knows whether Pack could give it.
func TestUnpackEveryShortString(t *testing.T) {
	const letters = "\x00\x01\x02\x80"
	packed := map[string]string{}
	// seven bytes with these letters tell no more than eight
	grow("", letters, 8, func(s string) { packed[packByWords(s)] = s })
	grow("", letters, 7, func(p string) {
		want, ok := packed[p]
		e := api.OK
		if !ok {
			e = api.ErrBytes
		}
		if got, f := larder.Unpack(p); got != want || f != e {
			t.Errorf("P5: %q: %q, %d, want %q, %d", p, got, f, want, e)
		}
	})
}
