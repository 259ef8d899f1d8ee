package mac

import (
	"fmt"
	"math"
	"math/rand"
	"slices"
	"strings"
	"testing"

	"toll/api"
)

const all = "ff:ff:ff:ff:ff:ff"

func wantAddress(t *testing.T, name string, got, want api.Mac) {
	t.Helper()
	if got != want {
		t.Errorf("%s: % x, want % x", name, got, want)
	}
}

// wantNoAddress asks for the error, and, by R2, for no address beside it.
func wantNoAddress(t *testing.T, s string) {
	t.Helper()
	if m, e := Parse(s); e != api.ErrForm || m != (api.Mac{}) {
		t.Errorf("Parse(%q): % x, %d; want nothing and ErrForm", s, m, e)
	}
}

func wantNoPattern(t *testing.T, s string, want api.Errno) {
	t.Helper()
	if p, e := ParsePattern(s); e != want || p != (Pattern{}) {
		t.Errorf("ParsePattern(%q): %v, %d; want nothing and %d", s, p, e, want)
	}
}

func wantPattern(t *testing.T, s string, want Pattern) {
	t.Helper()
	if p, e := ParsePattern(s); e != api.OK || p != want {
		t.Errorf("ParsePattern(%q): %v, %d; want %v", s, p, e, want)
	}
}

// randomMac has bytes of the edges more often than others.
func randomMac(r *rand.Rand) api.Mac {
	var m api.Mac
	for i := range m {
		m[i] = []byte{0, 1, 0x7f, 0x80, 0xff, byte(r.Intn(256))}[r.Intn(6)]
	}
	return m
}

func randomMask(r *rand.Rand) api.Mac {
	if r.Intn(2) == 0 {
		return slowBits(r.Intn(49))
	}
	return randomMac(r)
}

// slowBits sets bit by bit, as the chapter tells it.
func slowBits(n int) api.Mac {
	var m api.Mac
	for i := range n {
		m[i/8] |= 0x80 >> (i % 8)
	}
	return m
}

// sameUnder tells bit by bit whether two addresses are one where the mask has bits.
func sameUnder(a, b, mask api.Mac) bool {
	for i := range 48 {
		bit := byte(0x80) >> (i % 8)
		if mask[i/8]&bit != 0 && a[i/8]&bit != b[i/8]&bit {
			return false
		}
	}
	return true
}

// The numbers of the kinds are part of the chapter.
func TestKindsNumbers(t *testing.T) {
	if got := [5]int{Zero, Broadcast, Reserved, Group, Station}; got != [5]int{1, 2, 3, 4, 5} {
		t.Error(got)
	}
}

// P2.1, and the first row of the examples.
func TestText(t *testing.T) {
	rows := []struct {
		m    api.Mac
		want string
	}{
		{api.Mac{0x00, 0x1a, 0x2b, 0x3c, 0x4d, 0x5e}, "00:1a:2b:3c:4d:5e"},
		{api.Mac{}, "00:00:00:00:00:00"},
		{api.Mac{255, 255, 255, 255, 255, 255}, all},
		{api.Mac{0xab, 0xcd, 0xef, 0x01, 0x90, 0x0f}, "ab:cd:ef:01:90:0f"},
		{api.Mac{1, 2, 3, 4, 5, 6}, "01:02:03:04:05:06"},
	}
	for _, r := range rows {
		if got := Text(r.m); got != r.want {
			t.Errorf("Text(% x): %q, want %q", r.m, got, r.want)
		}
	}
	for b := range 256 {
		v := byte(b)
		want := fmt.Sprintf("%02x:%02x:00:00:00:%02x", v, ^v, v)
		if got := Text(api.Mac{v, ^v, 0, 0, 0, v}); got != want {
			t.Errorf("Text: %q, want %q", got, want)
		}
	}
}

// P2.1: great letters are taken too, and may stand beside small ones.
func TestParse(t *testing.T) {
	rows := []struct {
		s    string
		want api.Mac
	}{
		{"00:1a:2b:3c:4d:5e", api.Mac{0x00, 0x1a, 0x2b, 0x3c, 0x4d, 0x5e}},
		{"00:1A:2B:3C:4D:5E", api.Mac{0x00, 0x1a, 0x2b, 0x3c, 0x4d, 0x5e}},
		{"aB:Cd:eF:Fe:dC:bA", api.Mac{0xab, 0xcd, 0xef, 0xfe, 0xdc, 0xba}},
		{"00:00:00:00:00:00", api.Mac{}},
		{"FF:FF:FF:FF:FF:FF", api.Mac{255, 255, 255, 255, 255, 255}},
		{"01:02:03:04:05:06", api.Mac{1, 2, 3, 4, 5, 6}},
		{"90:09:99:12:34:56", api.Mac{0x90, 0x09, 0x99, 0x12, 0x34, 0x56}},
	}
	for _, r := range rows {
		m, e := Parse(r.s)
		if e != api.OK {
			t.Errorf("Parse(%q): %d", r.s, e)
		}
		wantAddress(t, "Parse of "+r.s, m, r.want)
	}
}

// P2.1: texts that are no address's.
func TestParseWrong(t *testing.T) {
	wrong := []string{
		"", ":", ":::::", "00", "0:0:0:0:0:0", "1:2:3:4:5:6",
		"00:1a:2b:3c:4d", "00:1a:2b:3c:4d:", "00:1a:2b:3c:4d:5", "00:1a:2b:3c:4d:5e:", "00:1a:2b:3c:4d:5e:6f",
		" 00:1a:2b:3c:4d:5e", "00:1a:2b:3c:4d:5e ", "00:1a:2b:3c:4d:5e\n", "00:1a:2b:3c:4d:5e\x00",
		"00-1a-2b-3c-4d-5e", "001a2b3c4d5e", "001a.2b3c.4d5e", "00:1a:2b:3c:4d.5e", "00:1a:2b-3c:4d:5e",
		"00:1a:2b:3c:4d:5g", "G0:1a:2b:3c:4d:5e", "00:1a:2b:3c:4d: e", "00:1a:2b:3c:4d:e ",
		"00:1a:2b:3c:4d:0x", "0x:1a:2b:3c:4d:5e", "+0:1a:2b:3c:4d:5e", "-0:1a:2b:3c:4d:5e", "0_:1a:2b:3c:4d:5e", "_0:1a:2b:3c:4d:5e",
		"0:01a:2b:3c:4d:5e", "000:1:2b:3c:4d:5e", ":00:1a:2b:3c:4d5", "00:1a:2b:3c:4d5e:", "::1a:2b:3c:4d:5e0",
		"٠:1a:2b:3c:4d:5e", "00:1a:2b:3c:4d:é", "00:1a:2b:3c:4d:\xff\xff", "00:1a:2b:3c:4d:5e/48", "/", "station",
		strings.Repeat("0", 17), strings.Repeat(":", 17), strings.Repeat("00:", 1000),
	}
	for _, s := range wrong {
		wantNoAddress(t, s)
	}
}

// P2.1: at each place of a text just those bytes are taken that may stand there.
func TestParseEachByte(t *testing.T) {
	text := "00:1a:2b:3c:4d:5e"
	for at := range len(text) {
		may := "0123456789abcdefABCDEF"
		if at%3 == 2 {
			may = ":"
		}
		for b := range 256 {
			s := []byte(text)
			s[at] = byte(b)
			if strings.IndexByte(may, byte(b)) < 0 {
				wantNoAddress(t, string(s))
				continue
			}
			m, e := Parse(string(s))
			if e != api.OK || Text(m) != strings.ToLower(string(s)) {
				t.Errorf("Parse(%q): % x, %d", s, m, e)
			}
		}
		wantNoAddress(t, text[:at])
		wantNoAddress(t, text[:at]+text[at+1:])
		wantNoAddress(t, text[:at]+"0"+text[at:])
		wantNoAddress(t, text[:at]+":"+text[at:])
	}
}

// P2.1: the first byte is the highest; of a greater number the lowest 48 bits count.
func TestNumber(t *testing.T) {
	rows := []struct {
		m api.Mac
		n uint64
	}{
		{api.Mac{}, 0},
		{api.Mac{0, 0, 0, 0, 0, 1}, 1},
		{api.Mac{1}, 1 << 40},
		{api.Mac{0x80}, 1 << 47},
		{api.Mac{0x01, 0x23, 0x45, 0x67, 0x89, 0xab}, 0x0123456789ab},
		{api.Mac{255, 255, 255, 255, 255, 255}, 1<<48 - 1},
	}
	for _, r := range rows {
		if got := Number(r.m); got != r.n {
			t.Errorf("Number(% x): %x, want %x", r.m, got, r.n)
		}
		for _, above := range []uint64{0, 1 << 48, 1 << 63, 0xabcd << 48, 0xffff << 48} {
			wantAddress(t, fmt.Sprintf("Of(%x)", r.n|above), Of(r.n|above), r.m)
		}
	}
	wantAddress(t, "Of the greatest", Of(math.MaxUint64), api.Mac{255, 255, 255, 255, 255, 255})
	wantAddress(t, "Of 2^48", Of(1<<48), api.Mac{})
}

// P2.1: of the kinds the first that fits.
func TestKind(t *testing.T) {
	rows := []struct {
		s    string
		want int
	}{
		{"00:00:00:00:00:00", Zero},
		{"00:00:00:00:00:01", Station}, {"00:00:00:00:01:00", Station}, {"02:00:00:00:00:00", Station}, {"01:00:00:00:00:00", Group},
		{all, Broadcast},
		{"ff:ff:ff:ff:ff:fe", Group}, {"fe:ff:ff:ff:ff:ff", Station}, {"fd:ff:ff:ff:ff:ff", Group}, {"ff:ff:ff:fe:ff:ff", Group},
		{"01:80:c2:00:00:00", Reserved}, {"01:80:c2:00:00:0e", Reserved}, {"01:80:c2:00:00:0f", Reserved},
		{"01:80:c2:00:00:10", Group}, {"01:80:c2:00:00:11", Group}, {"01:80:c2:00:00:f0", Group}, {"01:80:c2:00:00:ff", Group},
		{"01:80:c2:00:01:00", Group}, {"01:80:c2:01:00:00", Group}, {"01:80:c3:00:00:00", Group}, {"01:81:c2:00:00:00", Group}, {"03:80:c2:00:00:00", Group},
		{"00:80:c2:00:00:00", Station}, {"00:80:c2:00:00:0f", Station},
		{"01:00:5e:00:00:01", Group}, {"33:33:00:00:00:01", Group},
		{"00:1a:2b:3c:4d:5e", Station}, {"02:00:5e:10:00:ff", Station}, {"00:01:01:01:01:01", Station},
	}
	for _, r := range rows {
		m, e := Parse(r.s)
		if got := Kind(m); e != api.OK || got != r.want {
			t.Errorf("Kind of %s: %d, want %d", r.s, got, r.want)
		}
	}
	for b := range 256 {
		want := Reserved
		if b >= 16 {
			want = Group
		}
		if got := Kind(api.Mac{0x01, 0x80, 0xc2, 0, 0, byte(b)}); got != want {
			t.Errorf("last byte %d: %d, want %d", b, got, want)
		}
	}
}

// P2.1: whether the first byte is odd, whatever the others are.
func TestIsGroup(t *testing.T) {
	for b := range 256 {
		for _, rest := range []byte{0, 1, 254, 255} {
			m := api.Mac{byte(b), rest, rest, rest, rest, rest}
			odd := b%2 == 1
			if got := IsGroup(m); got != odd {
				t.Errorf("IsGroup(% x): %v", m, got)
			}
			if k := Kind(m); odd != slices.Contains([]int{Broadcast, Reserved, Group}, k) {
				t.Errorf("% x is of kind %d", m, k)
			}
		}
	}
}

// P2.2: n is brought to 0 to 48.
func TestBits(t *testing.T) {
	rows := map[int]string{
		math.MinInt: "00:00:00:00:00:00", math.MinInt32: "00:00:00:00:00:00", -64: "00:00:00:00:00:00", -16: "00:00:00:00:00:00", -1: "00:00:00:00:00:00",
		0: "00:00:00:00:00:00", 1: "80:00:00:00:00:00", 7: "fe:00:00:00:00:00", 8: "ff:00:00:00:00:00", 9: "ff:80:00:00:00:00",
		24: "ff:ff:ff:00:00:00", 44: "ff:ff:ff:ff:ff:f0", 47: "ff:ff:ff:ff:ff:fe",
		48: all, 49: all, 64: all, 96: all, math.MaxInt32: all, math.MaxInt: all,
	}
	for n, want := range rows {
		if got := Text(Bits(n)); got != want {
			t.Errorf("Bits(%d): %s, want %s", n, got, want)
		}
	}
	for n := range 49 {
		wantAddress(t, fmt.Sprintf("Bits(%d)", n), Bits(n), slowBits(n))
	}
}

// P2.2: just the bits that the mask has.
func TestMasked(t *testing.T) {
	m := api.Mac{0x12, 0x34, 0x56, 0x78, 0x9a, 0xbc}
	wantAddress(t, "by none", Masked(m, api.Mac{}), api.Mac{})
	wantAddress(t, "by all", Masked(m, Bits(48)), m)
	wantAddress(t, "by 20 bits", Masked(m, Bits(20)), api.Mac{0x12, 0x34, 0x50})
	wantAddress(t, "by others", Masked(m, api.Mac{0x0f, 0xf0, 0, 0xff, 0x81, 0x7f}), api.Mac{0x02, 0x30, 0, 0x78, 0x80, 0x3c})
	wantAddress(t, "what was handed in", m, api.Mac{0x12, 0x34, 0x56, 0x78, 0x9a, 0xbc})
	r := rand.New(rand.NewSource(1))
	for range 2000 {
		m, mask := randomMac(r), randomMac(r)
		if got := Number(Masked(m, mask)); got != Number(m)&Number(mask) {
			t.Fatalf("Masked(% x, % x): %x", m, mask, got)
		}
	}
}

// P2.2: the three forms of a pattern, and the second row of the examples.
func TestParsePattern(t *testing.T) {
	full := api.Mac{0x12, 0x34, 0x56, 0xab, 0xcd, 0xef}
	rows := []struct {
		s    string
		want Pattern
		text string
	}{
		{"01:80:C2:00:00:07/44", Pattern{api.Mac{0x01, 0x80, 0xc2}, slowBits(44)}, "01:80:c2:00:00:00/44"},
		{"12:34:56:ab:cd:ef", Pattern{full, slowBits(48)}, "12:34:56:ab:cd:ef"},
		{"12:34:56:AB:CD:EF/48", Pattern{full, slowBits(48)}, "12:34:56:ab:cd:ef"},
		{"12:34:56:ab:cd:ef/FF:ff:FF:ff:FF:ff", Pattern{full, slowBits(48)}, "12:34:56:ab:cd:ef"},
		{"12:34:56:ab:cd:ef/47", Pattern{api.Mac{0x12, 0x34, 0x56, 0xab, 0xcd, 0xee}, slowBits(47)}, "12:34:56:ab:cd:ee/47"},
		{"12:34:56:ab:cd:ef/24", Pattern{api.Mac{0x12, 0x34, 0x56}, slowBits(24)}, "12:34:56:00:00:00/24"},
		{"12:34:56:ab:cd:ef/10", Pattern{api.Mac{0x12, 0x00}, slowBits(10)}, "12:00:00:00:00:00/10"},
		{"12:34:56:ab:cd:ef/4", Pattern{api.Mac{0x10}, slowBits(4)}, "10:00:00:00:00:00/4"},
		{"12:34:56:ab:cd:ef/04", Pattern{api.Mac{0x10}, slowBits(4)}, "10:00:00:00:00:00/4"},
		{"12:34:56:ab:cd:ef/0", Pattern{}, "00:00:00:00:00:00/0"},
		{"12:34:56:ab:cd:ef/00", Pattern{}, "00:00:00:00:00:00/0"},
		{"12:34:56:ab:cd:ef/00:00:00:00:00:00", Pattern{}, "00:00:00:00:00:00/0"},
		{"12:34:56:ab:cd:ef/ff:ff:ff:00:00:00", Pattern{api.Mac{0x12, 0x34, 0x56}, slowBits(24)}, "12:34:56:00:00:00/24"},
		{"12:34:56:ab:cd:ef/80:00:00:00:00:00", Pattern{api.Mac{}, slowBits(1)}, "00:00:00:00:00:00/1"},
		{"12:34:56:ab:cd:ef/00:00:00:00:00:01", Pattern{api.Mac{0, 0, 0, 0, 0, 1}, api.Mac{0, 0, 0, 0, 0, 1}}, "00:00:00:00:00:01/00:00:00:00:00:01"},
		{"12:34:56:ab:cd:ef/ff:00:FF:00:00:0f", Pattern{api.Mac{0x12, 0, 0x56, 0, 0, 0x0f}, api.Mac{255, 0, 255, 0, 0, 15}}, "12:00:56:00:00:0f/ff:00:ff:00:00:0f"},
		{"12:34:56:ab:cd:ef/7f:ff:ff:ff:ff:ff", Pattern{full, api.Mac{127, 255, 255, 255, 255, 255}}, "12:34:56:ab:cd:ef/7f:ff:ff:ff:ff:ff"},
		{"12:34:56:ab:cd:ef/ff:ff:ff:ff:ff:fd", Pattern{api.Mac{0x12, 0x34, 0x56, 0xab, 0xcd, 0xed}, api.Mac{255, 255, 255, 255, 255, 253}}, "12:34:56:ab:cd:ed/ff:ff:ff:ff:ff:fd"},
	}
	for _, r := range rows {
		wantPattern(t, r.s, r.want)
		if got := r.want.Text(); got != r.text {
			t.Errorf("text of %s: %s, want %s", r.s, got, r.text)
		}
	}
}

// P2.2: 1 or 2 digits and no more; 48 is the greatest number of them.
func TestParsePatternDigits(t *testing.T) {
	a := "12:34:56:ab:cd:ef"
	m, _ := Parse(a)
	for n := range 1200 {
		for _, s := range []string{fmt.Sprintf("%s/%d", a, n), fmt.Sprintf("%s/%02d", a, n), fmt.Sprintf("%s/%03d", a, n)} {
			digits := len(s) - len(a) - 1
			switch {
			case digits > 2:
				wantNoPattern(t, s, api.ErrForm)
			case n > 48:
				wantNoPattern(t, s, api.ErrRange)
			default:
				wantPattern(t, s, Pattern{Masked(m, slowBits(n)), slowBits(n)})
			}
		}
	}
	isDigit := func(b int) bool { return '0' <= b && b <= '9' }
	for one := range 256 {
		if s := a + "/" + string([]byte{byte(one)}); !isDigit(one) {
			wantNoPattern(t, s, api.ErrForm)
		}
		for two := range 256 {
			if s := a + "/" + string([]byte{byte(one), byte(two)}); !isDigit(one) || !isDigit(two) {
				wantNoPattern(t, s, api.ErrForm)
			}
		}
	}
}

// P2.2: texts that are no pattern's; what is no text of one is ErrForm, be its number above 48 or not.
func TestParsePatternWrong(t *testing.T) {
	a := "12:34:56:ab:cd:ef"
	for _, s := range []string{
		"", "/", "//", "/24", "/" + a, a + "/", a + "//", a + "//24", a + "/24/", a + "/24/24", a + "/" + a + "/", a + "/" + a + "/" + a,
		a + "/ 2", a + "/2 ", a + "/24 ", a + " /24", a + "/ 24", " " + a, a + " ", a + "/+4", a + "/-4", a + "/-1", a + "/0x", a + "/f", a + "/ff", a + "/1_", a + "/1.",
		a + "/000", a + "/024", a + "/048", a + "/049", a + "/100", a + "/256", a + "/18446744073709551616", a + "/" + strings.Repeat("0", 17), a + "/٤",
		a + "/ff:ff:ff", a + "/ff:ff:ff:ff:ff:fg", a + "/ff-ff-ff-ff-ff-ff", a + "/" + all + ":", a + "24", a + ":24", a + "\\24",
		"12:34:56:ab:cd/24", "12:34:56:ab:cd:eg/24", "12:34:56:ab:cd:eg", "12:34:56:ab:cd:ef:01/24", "12:34:56:ab:cd/99", "x/49", "/49", "12:34:56:ab:cd:ef /49", "12:34:56:ab:cd:eg/" + all,
	} {
		wantNoPattern(t, s, api.ErrForm)
	}
	for _, s := range []string{a + "/49", a + "/50", a + "/64", a + "/99", strings.ToUpper(a) + "/49"} {
		wantNoPattern(t, s, api.ErrRange)
	}
}

// P2.2: a number stands behind the slash just if the mask is one of so many bits.
func TestPatternText(t *testing.T) {
	for n := range 48 {
		p := Pattern{Want: slowBits(n), Mask: slowBits(n)}
		if got, want := p.Text(), fmt.Sprintf("%s/%d", Text(slowBits(n)), n); got != want {
			t.Errorf("%d bits: %s, want %s", n, got, want)
		}
		for bit := range 48 {
			mask := slowBits(n)
			mask[bit/8] ^= 0x80 >> (bit % 8)
			if bit == n || bit == n-1 {
				continue
			}
			if got, want := (Pattern{Mask: mask}).Text(), "00:00:00:00:00:00/"+Text(mask); got != want {
				t.Errorf("mask % x: %s, want %s", mask, got, want)
			}
		}
	}
	if got := (Pattern{}).Text(); got != "00:00:00:00:00:00/0" {
		t.Errorf("the zero pattern: %s", got)
	}
	if got := (Pattern{Mask: slowBits(48)}).Text(); got != "00:00:00:00:00:00" {
		t.Errorf("all bits: %s", got)
	}
}

// P2.2: of one that is not masked the text is that of the masked one.
func TestPatternTextMasks(t *testing.T) {
	p := Pattern{Want: api.Mac{1, 2, 3, 4, 5, 6}, Mask: slowBits(24)}
	if got := p.Text(); got != "01:02:03:00:00:00/24" {
		t.Error(got)
	}
	r := rand.New(rand.NewSource(2))
	for range 2000 {
		want, mask := randomMac(r), randomMask(r)
		p := Pattern{want, mask}
		if got, masked := p.Text(), (Pattern{Masked(want, mask), mask}).Text(); got != masked {
			t.Fatalf("%v: %s, masked %s", p, got, masked)
		}
		if p != (Pattern{want, mask}) {
			t.Fatal("the pattern changed")
		}
	}
}

// P2.2: bits outside the mask count on neither side.
func TestMatches(t *testing.T) {
	rows := []struct {
		p    Pattern
		m    api.Mac
		want bool
	}{
		{Pattern{api.Mac{2, 0, 0x5e}, slowBits(24)}, api.Mac{2, 0, 0x5e, 0x10, 0, 0xff}, true},
		{Pattern{api.Mac{2, 0, 0x5e}, slowBits(24)}, api.Mac{2, 0, 0x5f}, false},
		{Pattern{api.Mac{2, 0, 0x5e, 9, 9, 9}, slowBits(24)}, api.Mac{2, 0, 0x5e, 1, 2, 3}, true},
		{Pattern{api.Mac{2, 0, 0x5e, 9, 9, 9}, slowBits(48)}, api.Mac{2, 0, 0x5e, 9, 9, 9}, true},
		{Pattern{api.Mac{2, 0, 0x5e, 9, 9, 9}, slowBits(48)}, api.Mac{2, 0, 0x5e, 9, 9, 8}, false},
		{Pattern{api.Mac{0, 0, 0, 0, 0, 7}, api.Mac{0, 0, 0, 0, 0, 1}}, api.Mac{255, 255, 255, 255, 255, 255}, true},
		{Pattern{api.Mac{0, 0, 0, 0, 0, 7}, api.Mac{0, 0, 0, 0, 0, 1}}, api.Mac{255, 255, 255, 255, 255, 254}, false},
	}
	for _, r := range rows {
		if got := r.p.Matches(r.m); got != r.want {
			t.Errorf("%v of % x: %v", r.p, r.m, got)
		}
	}
	r := rand.New(rand.NewSource(3))
	for range 5000 {
		p := Pattern{randomMac(r), randomMask(r)}
		m := p.Want
		for range r.Intn(3) {
			m[r.Intn(6)] ^= 1 << r.Intn(8)
		}
		if got := p.Matches(m); got != sameUnder(p.Want, m, p.Mask) {
			t.Fatalf("%v of % x: %v", p, m, got)
		}
	}
}

// P2.3: there and back.
func TestThereAndBack(t *testing.T) {
	r := rand.New(rand.NewSource(4))
	for range 5000 {
		m, mask := randomMac(r), randomMask(r)
		for _, s := range []string{Text(m), strings.ToUpper(Text(m))} {
			if back, e := Parse(s); e != api.OK || back != m {
				t.Fatalf("Parse of %s: % x, %d", s, back, e)
			}
		}
		if back := Of(Number(m)); back != m {
			t.Fatalf("Of of Number of % x: % x", m, back)
		}
		p := Pattern{Masked(m, mask), mask}
		wantPattern(t, p.Text(), p)
		wantPattern(t, Pattern{m, mask}.Text(), p)
	}
	for n := range 49 {
		p := Pattern{slowBits(n), slowBits(n)}
		wantPattern(t, p.Text(), p)
	}
}

// P2.4: what matches by more bits matches by fewer; by 0 bits all match.
func TestMoreBits(t *testing.T) {
	r := rand.New(rand.NewSource(5))
	for range 500 {
		want, m := randomMac(r), randomMac(r)
		if r.Intn(2) == 0 {
			same := Bits(r.Intn(49))
			m = Of(Number(Masked(want, same)) | Number(m)&^Number(same))
		}
		if !(Pattern{want, Bits(0)}).Matches(m) {
			t.Fatalf("0 bits of % x: not % x", want, m)
		}
		matched := true
		for n := range 49 {
			p, e := ParsePattern(fmt.Sprintf("%s/%d", Text(want), n))
			got := p.Matches(m)
			if e != api.OK || got && !matched {
				t.Fatalf("% x by % x: by %d bits, not by fewer", m, want, n)
			}
			matched = got
		}
		if matched != (m == want) {
			t.Fatalf("% x by % x: by all bits %v", m, want, matched)
		}
	}
}
