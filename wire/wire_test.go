package wire

import (
	"bytes"
	"encoding/binary"
	"hash/adler32"
	"math"
	"math/rand"
	"slices"
	"strings"
	"testing"

	"contango/api"
)

// edges are numbers at the ends of int, at 0, and where the length of the encoding changes.
func edges() (l []int) {
	l = []int{0, math.MaxInt, math.MinInt}
	for bits := range 63 {
		n := 1 << bits
		l = append(l, n-1, n, n+1, -n-1, -n, -n+1)
	}
	return l
}

func randomBytes(r *rand.Rand, n int) (b []byte) {
	b = make([]byte, n)
	r.Read(b)
	return b
}

func checkInt(t *testing.T, b []byte, at int, wantN, wantNext int, wantE api.Errno) {
	t.Helper()
	n, next, e := Int(b, at)
	if n != wantN || next != wantNext || e != wantE {
		t.Errorf("Int of %x at %d: %d, %d, error %d; want %d, %d, error %d", b, at, n, next, e, wantN, wantNext, wantE)
	}
}

func checkText(t *testing.T, b []byte, at int, wantS string, wantNext int, wantE api.Errno) {
	t.Helper()
	s, next, e := Text(b, at)
	if s != wantS || next != wantNext || e != wantE {
		t.Errorf("Text at %d: %.20q, %d, error %d; want %.20q, %d, error %d", at, s, next, e, wantS, wantNext, wantE)
	}
}

func checkFrame(t *testing.T, b []byte, at int, wantP []byte, wantNext int, wantE api.Errno) {
	t.Helper()
	p, next, e := Frame(b, at)
	if !bytes.Equal(p, wantP) || next != wantNext || e != wantE {
		t.Errorf("Frame at %d: %.20x, %d, error %d; want %.20x, %d, error %d", at, p, next, e, wantP, wantNext, wantE)
	}
}

func checkFrames(t *testing.T, b []byte, wantL [][]byte, wantWhole int) {
	t.Helper()
	l, whole := Frames(b)
	if !slices.EqualFunc(l, wantL, bytes.Equal) || whole != wantWhole {
		t.Errorf("Frames of %d bytes: %d frames, %d bytes; want %d frames, %d bytes", len(b), len(l), whole, len(wantL), wantWhole)
	}
}

// P4.1, P4.5: numbers, against the library's encoding, between any other bytes.
func TestPutIntAndInt(t *testing.T) {
	r := rand.New(rand.NewSource(1))
	numbers := edges()
	for range 20000 {
		numbers = append(numbers, int(r.Uint64())>>r.Intn(64))
	}
	for _, n := range numbers {
		before, after := randomBytes(r, r.Intn(4)), randomBytes(r, r.Intn(4))
		b := PutInt(before, n)
		if want := binary.AppendVarint(slices.Clone(before), int64(n)); !bytes.Equal(b, want) {
			t.Errorf("%d behind %x: %x, want %x", n, before, b, want)
		}
		checkInt(t, b, len(before), n, len(b), api.OK)
		checkInt(t, append(slices.Clone(b), after...), len(before), n, len(b), api.OK)
		for cut := len(before); cut < len(b); cut++ {
			checkInt(t, b[:cut], len(before), 0, 0, api.ErrShort)
		}
	}
}

// P4.1
func TestPutIntBytes(t *testing.T) {
	for n, want := range map[int]string{0: "\x00", -1: "\x01", 1: "\x02", -2: "\x03", 63: "\x7e", -64: "\x7f", 64: "\x80\x01", -65: "\x81\x01", 300: "\xd8\x04", math.MaxInt: "\xfe\xff\xff\xff\xff\xff\xff\xff\xff\x01", math.MinInt: "\xff\xff\xff\xff\xff\xff\xff\xff\xff\x01"} {
		if b := PutInt(nil, n); string(b) != want {
			t.Errorf("%d: %x, want %x", n, b, want)
		}
		if b := PutInt([]byte("x\x80"), n); string(b) != "x\x80"+want {
			t.Errorf("%d: %x, want %x", n, b, "x\x80"+want)
		}
	}
}

// P4.1: an offset that is not between 0 and the length; at the length nothing follows.
func TestOffsets(t *testing.T) {
	for _, b := range [][]byte{nil, {}, {0}, {2, 'a', 0, 98, 0, 98}} {
		for _, at := range []int{-1, len(b) + 1, math.MinInt, math.MaxInt} {
			checkInt(t, b, at, 0, 0, api.ErrArg)
			checkText(t, b, at, "", 0, api.ErrArg)
			checkFrame(t, b, at, nil, 0, api.ErrArg)
		}
		checkInt(t, b, len(b), 0, 0, api.ErrShort)
		checkText(t, b, len(b), "", 0, api.ErrShort)
		checkFrame(t, b, len(b), nil, 0, api.ErrShort)
	}
	beyond := []byte{2, 'a', 0, 98, 0, 98} // what lies behind the end of a slice is not read
	checkInt(t, beyond[:0], 0, 0, 0, api.ErrShort)
	checkInt(t, beyond[:0], 1, 0, 0, api.ErrArg)
	checkText(t, beyond[:1], 0, "", 0, api.ErrShort)
	checkFrame(t, beyond[:5], 0, nil, 0, api.ErrShort)
}

// P4.1: the errors of bytes that no number has.
func TestIntErrors(t *testing.T) {
	nines := strings.Repeat("\xff", 9)
	tens := strings.Repeat("\x80", 10)
	for s, want := range map[string]api.Errno{
		"\x80":                                  api.ErrShort,
		"\x80\x80":                              api.ErrShort,
		"\xff":                                  api.ErrShort,
		nines:                                   api.ErrShort,
		tens:                                    api.ErrShort,
		tens + "\x80":                           api.ErrShort, // it has no end: that is named ahead of too many bytes
		strings.Repeat("\x80", 100000):          api.ErrShort,
		"\x80\x00":                              api.ErrForm,
		"\xff\x00":                              api.ErrForm,
		"\x80\x80\x00":                          api.ErrForm,
		nines + "\x00":                          api.ErrForm,
		nines + "\x02":                          api.ErrForm,
		nines + "\x03":                          api.ErrForm,
		nines + "\x7f":                          api.ErrForm,
		tens + "\x01":                           api.ErrForm,
		tens + "\x00":                           api.ErrForm,
		tens + "\x80\x01":                       api.ErrForm,
		nines + "\x81\x01":                      api.ErrForm,
		strings.Repeat("\x80", 100000) + "\x01": api.ErrForm,
	} {
		for _, before := range []string{"", "\x02", "\x80\x80"} {
			checkInt(t, []byte(before+s), len(before), 0, 0, want)
			checkText(t, []byte(before+s), len(before), "", 0, want)
			checkFrame(t, []byte(before+s), len(before), nil, 0, want)
			if want == api.ErrForm { // what follows the end changes nothing
				checkInt(t, []byte(before+s+"\x01"), len(before), 0, 0, want)
			}
		}
	}
}

// holdInt holds Int against what the library encodes: the bytes up to the first one below 128 are either the encoding of the number that they decode to, or none.
func holdInt(t *testing.T, b []byte) {
	t.Helper()
	end := slices.IndexFunc(b, func(v byte) bool { return v < 128 })
	if end < 0 {
		checkInt(t, b, 0, 0, 0, api.ErrShort)
		return
	}
	n, length := binary.Varint(b)
	if length == end+1 && bytes.Equal(binary.AppendVarint(nil, n), b[:length]) {
		checkInt(t, b, 0, int(n), length, api.OK)
		if again := PutInt(nil, int(n)); !bytes.Equal(again, b[:length]) {
			t.Errorf("%x is accepted, and %x is produced", b[:length], again)
		}
		return
	}
	checkInt(t, b, 0, 0, 0, api.ErrForm)
}

// P4.1, P4.5: Int accepts exactly what PutInt produces.
func TestIntAcceptsWhatPutIntProduces(t *testing.T) {
	for i := range 1 << 16 {
		holdInt(t, []byte{byte(i >> 8), byte(i)})
		holdInt(t, []byte{byte(i >> 8), byte(i), 1})
		holdInt(t, []byte{byte(i>>8) | 128, byte(i) | 128, byte(i >> 8)})
	}
	r := rand.New(rand.NewSource(2))
	for range 100000 {
		b := randomBytes(r, 12)
		for i := range r.Intn(13) {
			b[i] |= 128
		}
		holdInt(t, b)
		at := r.Intn(12)
		b[at] = []byte{0, 1, 2, 127}[r.Intn(4)]
		holdInt(t, b)
	}
}

// P4.2, P4.5
func TestPutTextAndText(t *testing.T) {
	r := rand.New(rand.NewSource(3))
	texts := []string{"", "a", "ab", "\x00", "\xff\x80\x00", "a\nb", "\u00e4", strings.Repeat("b", 63), strings.Repeat("c", 64), strings.Repeat("d", 8191), strings.Repeat("e", 8192), strings.Repeat("f", api.MaxText-1), strings.Repeat("g", api.MaxText)}
	for range 300 {
		texts = append(texts, string(randomBytes(r, r.Intn(200))))
	}
	for _, s := range texts {
		before, after := randomBytes(r, r.Intn(4)), randomBytes(r, r.Intn(4))
		b := PutText(before, s)
		want := append(binary.AppendVarint(slices.Clone(before), int64(len(s))), s...)
		if !bytes.Equal(b, want) {
			t.Errorf("%.20q behind %x: %.20x", s, before, b)
		}
		checkText(t, b, len(before), s, len(b), api.OK)
		checkText(t, append(slices.Clone(b), after...), len(before), s, len(b), api.OK)
		checkText(t, b[:len(b)-1], len(before), "", 0, api.ErrShort)
	}
}

// P4.2: the errors of Text, which Frame has as well, in their order.
func TestTextErrors(t *testing.T) {
	for _, c := range []struct {
		length int
		bytes  int // that follow
		e      api.Errno
	}{
		{-1, 0, api.ErrForm},
		{-1, 3, api.ErrForm},
		{-2, 100, api.ErrForm},
		{-api.MaxText - 1, 100, api.ErrForm},
		{math.MinInt, 3, api.ErrForm},
		{api.MaxText + 1, 0, api.ErrLong},
		{api.MaxText + 1, 3, api.ErrLong},
		{api.MaxText + 1, api.MaxText + 100, api.ErrLong},
		{math.MaxInt, 3, api.ErrLong},
		{api.MaxText, 0, api.ErrShort},
		{api.MaxText, api.MaxText - 1, api.ErrShort},
		{1, 0, api.ErrShort},
		{4, 3, api.ErrShort},
	} {
		for _, before := range []string{"", "xyz"} {
			b := append(PutInt([]byte(before), c.length), make([]byte, c.bytes)...)
			checkText(t, b, len(before), "", 0, c.e)
			checkFrame(t, b, len(before), nil, 0, c.e)
		}
	}
}

// P4.2, P4.4: what is encoded may be longer than what can be decoded.
func TestTooLongToDecode(t *testing.T) {
	for _, length := range []int{api.MaxText + 1, 3 * api.MaxText} {
		s := strings.Repeat("a", length)
		b := PutText([]byte("x"), s)
		if string(b) != string(binary.AppendVarint([]byte("x"), int64(length)))+s {
			t.Error("PutText of a long string")
		}
		checkText(t, b, 1, "", 0, api.ErrLong)
		b = PutFrame([]byte("x"), []byte(s))
		if string(b) != string(sealed([]byte("x"), []byte(s))) {
			t.Error("PutFrame of a long payload")
		}
		checkFrame(t, b, 1, nil, 0, api.ErrLong)
		checkFrames(t, b[1:], nil, 0)
	}
}

// P4.3
func TestSum(t *testing.T) {
	for s, want := range map[string]uint32{"": 1, "\x00": 0x00010001, "\x00\x00": 0x00020001, "a": 0x00620062, "ab": 0x012600c4, "ba": 0x012700c4, "Wikipedia": 0x11e60398} {
		if n := Sum([]byte(s)); n != want {
			t.Errorf("%q: %x, want %x", s, n, want)
		}
	}
	r := rand.New(rand.NewSource(4))
	for range 2000 {
		b := randomBytes(r, r.Intn(3000))
		if n := Sum(b); n != adler32.Checksum(b) {
			t.Errorf("%x: %x, want %x", b, n, adler32.Checksum(b))
		}
	}
	for _, v := range []byte{0, 1, 127, 128, 255} { // both halves exceed their modulus again and again
		b := bytes.Repeat([]byte{v}, 1000000)
		if n := Sum(b); n != adler32.Checksum(b) {
			t.Errorf("a million bytes %d: %x, want %x", v, n, adler32.Checksum(b))
		}
	}
}

// sealed is PutFrame by the library's means.
func sealed(b, p []byte) []byte {
	b = binary.AppendVarint(slices.Clone(b), int64(len(p)))
	return binary.BigEndian.AppendUint32(append(b, p...), adler32.Checksum(p))
}

// P4.4, P4.5
func TestPutFrameAndFrame(t *testing.T) {
	r := rand.New(rand.NewSource(5))
	payloads := [][]byte{nil, {}, {0}, {255}, []byte("abc"), randomBytes(r, 63), randomBytes(r, 64), randomBytes(r, api.MaxText-1), randomBytes(r, api.MaxText)}
	for range 300 {
		payloads = append(payloads, randomBytes(r, r.Intn(200)))
	}
	for _, p := range payloads {
		before, after := randomBytes(r, r.Intn(4)), randomBytes(r, r.Intn(6))
		b := PutFrame(before, p)
		if !bytes.Equal(b, sealed(before, p)) {
			t.Errorf("%.20x behind %x: %.20x", p, before, b)
		}
		checkFrame(t, b, len(before), p, len(b), api.OK)
		checkFrame(t, append(slices.Clone(b), after...), len(before), p, len(b), api.OK)
		for missing := 1; missing <= sumBytes && missing <= len(b); missing++ {
			checkFrame(t, b[:len(b)-missing], len(before), nil, 0, api.ErrShort)
		}
	}
}

// P4.4: ErrShort is named ahead of ErrSum.
func TestFrameErrors(t *testing.T) {
	checkFrame(t, []byte("\x02a\x00\x00\x00"), 0, nil, 0, api.ErrShort)
	checkFrame(t, []byte("\x02a\x00\x00\x00\x00"), 0, nil, 0, api.ErrSum)
	checkFrame(t, []byte("\x02a\x00\x62\x00\x62"), 0, []byte("a"), 6, api.OK)
	checkFrame(t, []byte("\x02a\x62\x00\x62\x00"), 0, nil, 0, api.ErrSum) // least significant first
	checkFrame(t, []byte("\x00\x00\x00\x00\x01"), 0, nil, 5, api.OK)
	checkFrame(t, []byte("\x00\x00\x00\x00\x00"), 0, nil, 0, api.ErrSum)
}

// P4.4, P4.6: frames that are truncated anywhere.
func TestTorn(t *testing.T) {
	r := rand.New(rand.NewSource(6))
	for round := range 100 {
		payloads := make([][]byte, r.Intn(8))
		var b []byte
		ends := []int{0}
		for i := range payloads {
			payloads[i] = randomBytes(r, r.Intn(3)*r.Intn(50))
			if round == 0 {
				payloads[i] = nil
			}
			b = PutFrame(b, payloads[i])
			ends = append(ends, len(b))
		}
		for cut := range len(b) + 1 {
			complete := 0
			for complete < len(payloads) && ends[complete+1] <= cut {
				complete++
			}
			checkFrames(t, b[:cut], payloads[:complete], ends[complete])
			checkFrames(t, slices.Clone(b[:cut]), payloads[:complete], ends[complete])
		}
	}
}

// P4.4: Frames ends at the first error of any kind, although sound frames follow.
func TestFramesEndAtAnError(t *testing.T) {
	sound := PutFrame(PutFrame(nil, []byte("one")), []byte("two"))
	for _, bad := range []string{"\x01", "\x80\x00", "\x02a\x00b\x00a", "\x82\x80\x08", strings.Repeat("\x80", 20) + "\x01", "\xc8\x01abc"} {
		b := append(slices.Clone(sound), bad...)
		checkFrames(t, append(b, sound...), [][]byte{[]byte("one"), []byte("two")}, len(sound))
		checkFrames(t, append([]byte(bad), sound...), nil, 0)
	}
	checkFrames(t, nil, nil, 0)
}

// P4.7: every byte of a payload and of its checksum, changed to every other one.
func TestSpoilt(t *testing.T) {
	r := rand.New(rand.NewSource(7))
	for _, p := range [][]byte{nil, {0}, {255}, []byte("contango"), make([]byte, 100), bytes.Repeat([]byte{255}, 100), randomBytes(r, 300)} {
		b := PutFrame([]byte("x"), p)
		start := len(b) - sumBytes - len(p)
		for i := start; i < len(b); i++ {
			right := b[i]
			for change := 1; change < 256; change++ {
				b[i] = right ^ byte(change)
				checkFrame(t, b, 1, nil, 0, api.ErrSum)
			}
			b[i] = right
		}
		checkFrame(t, b, 1, p, len(b), api.OK)
	}
	p := randomBytes(r, api.MaxText)
	b := PutFrame(nil, p)
	for range 300 {
		i := len(b) - 1 - r.Intn(len(p)+sumBytes)
		change := byte(1 + r.Intn(255))
		b[i] ^= change
		checkFrame(t, b, 0, nil, 0, api.ErrSum)
		b[i] ^= change
	}
}

func TestExamples(t *testing.T) {
	if b := PutInt(nil, 300); string(b) != "\xd8\x04" {
		t.Errorf("%x", b)
	}
	if b := PutInt(nil, -1); string(b) != "\x01" {
		t.Errorf("%x", b)
	}
	checkInt(t, []byte{0x80, 0x00}, 0, 0, 0, api.ErrForm)
	checkInt(t, []byte{0x80}, 0, 0, 0, api.ErrShort)
	if b := PutFrame(nil, []byte("a")); string(b) != "\x02\x61\x00\x62\x00\x62" {
		t.Errorf("%x", b)
	}
}

// spoil overwrites all memory of a result, as far as it reaches.
func spoil(b []byte) {
	b = b[:cap(b)]
	for i := range b {
		b[i] = '#'
	}
}

// Arguments keep their bytes and the memory behind them, and no result lies in it or in another one's.
func TestMemoryIsKept(t *testing.T) {
	memory := []byte("before, and much more room behind it than any encoding takes")
	payload := []byte("payload and behind")
	b, p := memory[:6], payload[:7]
	keptMemory, keptPayload := string(memory), string(payload)
	first, second := PutInt(b, 300), PutInt(b, 5)
	text, frame := PutText(b, "abc"), PutFrame(b, p)
	if string(first) != "before\xd8\x04" || string(second) != "before\x0a" || string(text) != "before\x06abc" || string(frame) != string(sealed(b, p)) {
		t.Errorf("%q %q %q %q", first, second, text, frame)
	}
	for _, out := range [][]byte{first, second, text, frame} {
		spoil(out)
	}
	if string(memory) != keptMemory || string(payload) != keptPayload {
		t.Errorf("%q, %q", memory, payload)
	}
}

// What is decoded lies in new memory, each payload in its own.
func TestPayloadsAreNew(t *testing.T) {
	b := PutFrame(PutFrame(PutFrame(nil, []byte("one")), nil), []byte("three"))
	kept := string(b)
	p, _, _ := Frame(b, 0)
	spoil(p)
	l, _ := Frames(b)
	spoil(l[0])
	spoil(l[1])
	if string(b) != kept || string(l[2]) != "three" {
		t.Errorf("%x, %q", b, l)
	}
	again, _ := Frames(b)
	spoil(again[2])
	if string(again[0]) != "one" || string(b) != kept {
		t.Errorf("%x, %q", b, again)
	}
}
