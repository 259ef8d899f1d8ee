package inet

import (
	"bytes"
	"math"
	"math/rand"
	"slices"
	"strconv"
	"strings"
	"testing"

	"toll/api"
)

// known is a head whose sum is known, and so is each of its parts.
var known = []byte{0x45, 0, 0, 0x73, 0, 0, 0x40, 0, 0x40, 0x11, 0xb8, 0x61, 0xc0, 0xa8, 0, 1, 0xc0, 0xa8, 0, 0xc7}

// same holds heads against each other; nil and empty lists are one (R4).
func same(g, h Head) bool {
	return g.Tos == h.Tos && g.Ttl == h.Ttl && g.Proto == h.Proto && g.Id == h.Id &&
		g.Evil == h.Evil && g.Df == h.Df && g.More == h.More && g.Offset == h.Offset &&
		g.Src == h.Src && g.Dst == h.Dst && bytes.Equal(g.Options, h.Options)
}

// short keeps what a test tells of long bytes legible.
func short(b []byte) []byte { return b[:min(len(b), 70)] }

func wantBytes(t *testing.T, name string, got, want []byte) {
	t.Helper()
	if !bytes.Equal(got, want) {
		t.Errorf("%s: %d bytes % x, want %d: % x", name, len(got), short(got), len(want), short(want))
	}
}

// wantRead asks one of Get and Cut for what is wanted: by R2 for nothing beside an error, by R3 b stays.
func wantRead(t *testing.T, name string, read func([]byte) (Head, []byte, api.Errno), b []byte, want Head, wantBody []byte, wantErr api.Errno) {
	t.Helper()
	before := slices.Clone(b)
	h, body, e := read(b)
	if e != wantErr || !same(h, want) {
		t.Errorf("%s of %d bytes % x: %+v, %d; want %+v, %d", name, len(b), short(b), h, e, want, wantErr)
	}
	wantBytes(t, name+"'s body", body, wantBody)
	wantBytes(t, "what was handed in", b, before)
}

func wantGet(t *testing.T, b []byte, want Head, wantBody []byte, wantErr api.Errno) {
	t.Helper()
	wantRead(t, "Get", Get, b, want, wantBody, wantErr)
}

func wantCut(t *testing.T, b []byte, want Head, wantBody []byte, wantErr api.Errno) {
	t.Helper()
	wantRead(t, "Cut", Cut, b, want, wantBody, wantErr)
}

// wantAsTold asks Get and Cut for what the chapter tells of b.
func wantAsTold(t *testing.T, b []byte) {
	t.Helper()
	h, body, e := slowRead(b, false)
	wantGet(t, b, h, body, e)
	h, body, e = slowRead(b, true)
	wantCut(t, b, h, body, e)
}

// wantPut asks for want, or, by R2, for nothing beside an error; by R3 what is handed in stays.
func wantPut(t *testing.T, h Head, body, want []byte, wantErr api.Errno) {
	t.Helper()
	options, before := slices.Clone(h.Options), slices.Clone(body)
	b, e := Put(h, body)
	if e != wantErr {
		t.Errorf("Put of %+v and %d bytes: %d, want %d", h, len(body), e, wantErr)
	}
	wantBytes(t, "Put", b, want)
	wantBytes(t, "the options that were handed in", h.Options, options)
	wantBytes(t, "the body that was handed in", body, before)
}

// sealed is b with the sum in its first n bytes that makes them right.
func sealed(b []byte, n int) []byte {
	b = slices.Clone(b)
	b[10], b[11] = 0, 0
	s := slowSum(b[:n])
	b[10], b[11] = byte(s>>8), byte(s)
	return b
}

// head is 4 * words bytes of a head that tells of all bytes in all, and of the options o.
func head(words, all int, o ...byte) []byte {
	b := make([]byte, 4*words)
	copy(b, known)
	copy(b[20:], o)
	b[0], b[2], b[3] = byte(0x40+words), byte(all>>8), byte(all)
	return sealed(b, len(b))
}

// fill is n bytes, each its place's.
func fill(n int) []byte {
	b := make([]byte, n)
	for i := range b {
		b[i] = byte(i + 1)
	}
	return b
}

// slowSum carries at once, word by word, as the chapter tells it.
func slowSum(b []byte) uint16 {
	sum := 0
	for i, v := range b {
		if i%2 == 0 {
			sum += 256 * int(v)
		} else {
			sum += int(v)
		}
		for sum > 65535 {
			sum = sum/65536 + sum%65536
		}
	}
	return uint16(65535 - sum)
}

// slowOptions goes through by place.
func slowOptions(b []byte) bool {
	if len(b) > 40 || len(b)%4 > 0 {
		return false
	}
	for i := 0; i < len(b); {
		if b[i] == 0 {
			return true
		}
		if b[i] == 1 {
			i++
			continue
		}
		if i+1 >= len(b) || b[i+1] < 2 || i+int(b[i+1]) > len(b) {
			return false
		}
		i += int(b[i+1])
	}
	return true
}

func slowFragment(h Head, n int) bool {
	return 8*h.Offset+n <= 65535 && (n%8 == 0 || !h.More)
}

// slowRead asks one thing of the chapter after the other; cut leaves out what Cut does.
func slowRead(b []byte, cut bool) (Head, []byte, api.Errno) {
	if len(b) < 20 {
		return Head{}, nil, api.ErrShort
	}
	n := int(b[0]%16) * 4
	if b[0]/16 != 4 || n < 20 {
		return Head{}, nil, api.ErrForm
	}
	if len(b) < n {
		return Head{}, nil, api.ErrShort
	}
	all := int(b[2])*256 + int(b[3])
	if all < n {
		return Head{}, nil, api.ErrForm
	}
	if slowSum(b[:n]) != 0 {
		return Head{}, nil, api.ErrSum
	}
	if !slowOptions(b[20:n]) {
		return Head{}, nil, api.ErrForm
	}
	h := Head{
		Tos: b[1], Id: uint16(b[4])*256 + uint16(b[5]),
		Evil: b[6]&0x80 != 0, Df: b[6]&0x40 != 0, More: b[6]&0x20 != 0, Offset: int(b[6]&0x1f)*256 + int(b[7]),
		Ttl: b[8], Proto: b[9], Src: address(b[12:]), Dst: address(b[16:]), Options: b[20:n],
	}
	if len(b) >= all && (cut || slowFragment(h, all-n)) {
		return h, b[n:all], api.OK
	}
	if cut {
		return h, b[n:], api.OK
	}
	if len(b) < all {
		return Head{}, nil, api.ErrShort
	}
	return Head{}, nil, api.ErrForm
}

func address(b []byte) api.IP {
	return api.IP(b[0])<<24 | api.IP(b[1])<<16 | api.IP(b[2])<<8 | api.IP(b[3])
}

// slowPut lays place by place.
func slowPut(h Head, body []byte) ([]byte, api.Errno) {
	if h.Offset < 0 || h.Offset > 8191 || !slowOptions(h.Options) || !slowFragment(h, len(body)) {
		return nil, api.ErrArg
	}
	n := 20 + len(h.Options)
	all := n + len(body)
	if all > 65535 {
		return nil, api.ErrLong
	}
	b := make([]byte, n)
	b[0], b[1], b[2], b[3], b[4], b[5] = byte(0x40+n/4), h.Tos, byte(all/256), byte(all), byte(h.Id/256), byte(h.Id)
	b[6], b[7], b[8], b[9] = byte(h.Offset/256), byte(h.Offset), h.Ttl, h.Proto
	for i, on := range []bool{h.More, h.Df, h.Evil} {
		if on {
			b[6] += 0x20 << i
		}
	}
	for i := range 4 {
		b[12+i], b[16+i] = byte(h.Src>>(24-8*i)), byte(h.Dst>>(24-8*i))
	}
	copy(b[20:], h.Options)
	return slices.Concat(sealed(b, n), body), api.OK
}

func randomFill(r *rand.Rand, most int) []byte {
	b := make([]byte, r.Intn(most+1))
	r.Read(b)
	return b
}

// randomOptions may be.
func randomOptions(r *rand.Rand) []byte {
	var o []byte
	for most := 4 * r.Intn(11); len(o) < most; {
		switch n := 2 + r.Intn(10); {
		case r.Intn(20) == 0:
			o = append(o, 0)
			o = append(o, randomFill(r, most-len(o))...)
		case n <= most-len(o) && r.Intn(2) == 0:
			one := make([]byte, n)
			r.Read(one)
			one[0], one[1] = byte(2+r.Intn(254)), byte(n)
			o = append(o, one...)
		default:
			o = append(o, 1)
		}
	}
	for len(o)%4 > 0 {
		o = append(o, 1)
	}
	if !slowOptions(o) {
		return nil
	}
	return o
}

// randomHead may be put, with a body of so many bytes as it tells.
func randomHead(r *rand.Rand) (Head, []byte) {
	h := Head{
		Tos: byte(r.Intn(256)), Ttl: byte(r.Intn(256)), Proto: byte(r.Intn(256)), Id: uint16(r.Intn(65536)),
		Evil: r.Intn(2) == 0, Df: r.Intn(2) == 0, More: r.Intn(2) == 0,
		Src: api.IP(r.Uint32()), Dst: api.IP(r.Uint32()), Options: randomOptions(r),
	}
	body := randomFill(r, 100)
	if r.Intn(2) == 0 {
		h.Offset = r.Intn(8180)
	}
	if h.More {
		body = body[:len(body)/8*8]
	}
	return h, body
}

// P6.1: sums that can be worked out by hand.
func TestSum(t *testing.T) {
	rows := []struct {
		name string
		b    []byte
		want uint16
	}{
		{"none", nil, 0xffff},
		{"a word", []byte{0x12, 0x34}, 0xedcb},
		{"an odd byte is the high one", []byte{0x12}, 0xedff},
		{"three bytes", []byte{1, 2, 3}, 0xfbfd},
		{"zeros", make([]byte, 20), 0xffff},
		{"all bits", []byte{0xff, 0xff}, 0},
		{"all bits twice", []byte{0xff, 0xff, 0xff, 0xff}, 0},
		{"a carry", []byte{0xff, 0xff, 0, 1}, 0xfffe},
		{"a carry by the odd byte", []byte{0xff, 0, 1}, 0xfffe},
		{"a carry of a carry", []byte{0xff, 0xff, 0xff, 0xff, 0, 1}, 0xfffe},
		{"a head, as it stands", known, 0},
		{"a head without its sum", slices.Concat(known[:10], []byte{0, 0}, known[12:]), 0xb861},
		{"far more words than 16 bits count", bytes.Repeat([]byte{0xff}, 1<<19), 0},
	}
	for _, r := range rows {
		before := slices.Clone(r.b)
		if s := Sum(r.b); s != r.want {
			t.Errorf("%s: %04x, want %04x", r.name, s, r.want)
		}
		wantBytes(t, "what was summed", r.b, before)
	}
	r := rand.New(rand.NewSource(1))
	for range 3000 {
		b := randomFill(r, 90)
		if s, want := Sum(b), slowSum(b); s != want {
			t.Errorf("Sum of % x: %04x, want %04x", b, s, want)
		}
	}
}

// P6.1, P6.2: each part is read from its own place, and laid there.
func TestParts(t *testing.T) {
	rows := []struct {
		h    Head
		body []byte
		b    []byte
	}{
		{Head{}, nil, []byte{0x45, 0, 0, 20, 0, 0, 0, 0, 0, 0, 0xba, 0xeb, 0, 0, 0, 0, 0, 0, 0, 0}},
		{Head{Df: true, Ttl: 64, Proto: 17, Src: 0xc0a80001, Dst: 0xc0a800c7}, make([]byte, 95), slices.Concat(known, make([]byte, 95))},
		{Head{Tos: 0x81}, nil, []byte{0x45, 0x81, 0, 20, 0, 0, 0, 0, 0, 0, 0xba, 0x6a, 0, 0, 0, 0, 0, 0, 0, 0}},
		{Head{Id: 0x8001}, nil, []byte{0x45, 0, 0, 20, 0x80, 1, 0, 0, 0, 0, 0x3a, 0xea, 0, 0, 0, 0, 0, 0, 0, 0}},
		{Head{Evil: true}, nil, []byte{0x45, 0, 0, 20, 0, 0, 0x80, 0, 0, 0, 0x3a, 0xeb, 0, 0, 0, 0, 0, 0, 0, 0}},
		{Head{Df: true}, nil, []byte{0x45, 0, 0, 20, 0, 0, 0x40, 0, 0, 0, 0x7a, 0xeb, 0, 0, 0, 0, 0, 0, 0, 0}},
		{Head{More: true}, nil, []byte{0x45, 0, 0, 20, 0, 0, 0x20, 0, 0, 0, 0x9a, 0xeb, 0, 0, 0, 0, 0, 0, 0, 0}},
		{Head{Offset: 0x1001}, nil, []byte{0x45, 0, 0, 20, 0, 0, 0x10, 1, 0, 0, 0xaa, 0xea, 0, 0, 0, 0, 0, 0, 0, 0}},
		{Head{Offset: 8191}, nil, []byte{0x45, 0, 0, 20, 0, 0, 0x1f, 0xff, 0, 0, 0x9a, 0xec, 0, 0, 0, 0, 0, 0, 0, 0}},
		{Head{Ttl: 0x81}, nil, []byte{0x45, 0, 0, 20, 0, 0, 0, 0, 0x81, 0, 0x39, 0xeb, 0, 0, 0, 0, 0, 0, 0, 0}},
		{Head{Proto: 0x81}, nil, []byte{0x45, 0, 0, 20, 0, 0, 0, 0, 0, 0x81, 0xba, 0x6a, 0, 0, 0, 0, 0, 0, 0, 0}},
		{Head{Src: 0x81020304}, nil, []byte{0x45, 0, 0, 20, 0, 0, 0, 0, 0, 0, 0x36, 0xe5, 0x81, 2, 3, 4, 0, 0, 0, 0}},
		{Head{Dst: 0x81020304}, nil, []byte{0x45, 0, 0, 20, 0, 0, 0, 0, 0, 0, 0x36, 0xe5, 0, 0, 0, 0, 0x81, 2, 3, 4}},
		{Head{Options: []byte{1, 1, 1, 0}}, []byte{9}, []byte{0x46, 0, 0, 25, 0, 0, 0, 0, 0, 0, 0xb7, 0xe5, 0, 0, 0, 0, 0, 0, 0, 0, 1, 1, 1, 0, 9}},
		{Head{}, []byte{1, 2, 3}, []byte{0x45, 0, 0, 23, 0, 0, 0, 0, 0, 0, 0xba, 0xe8, 0, 0, 0, 0, 0, 0, 0, 0, 1, 2, 3}},
		{Head{}, make([]byte, 0x1002-20), append([]byte{0x45, 0, 0x10, 2, 0, 0, 0, 0, 0, 0, 0xaa, 0xfd, 0, 0, 0, 0, 0, 0, 0, 0}, make([]byte, 0x1002-20)...)},
	}
	for _, r := range rows {
		wantGet(t, r.b, r.h, r.body, api.OK)
		wantCut(t, r.b, r.h, r.body, api.OK)
		wantPut(t, r.h, r.body, r.b, api.OK)
	}
}

// P6.1: which error is answered of several: each row breaks one thing more than it names, one that is asked later.
func TestOrderOfErrors(t *testing.T) {
	change := func(b []byte, at int, v byte) []byte {
		b = slices.Clone(b)
		b[at] = v
		return b
	}
	rows := []struct {
		name     string
		b        []byte
		get, cut api.Errno
	}{
		{"none", nil, api.ErrShort, api.ErrShort},
		{"19 bytes of no head", make([]byte, 19), api.ErrShort, api.ErrShort},
		{"19 bytes of one", known[:19], api.ErrShort, api.ErrShort},
		{"20 bytes of no head", make([]byte, 20), api.ErrForm, api.ErrForm},
		{"version 6, 15 words", change(known, 0, 0x6f), api.ErrForm, api.ErrForm},
		{"version 5, sealed", sealed(slices.Concat(change(known, 0, 0x55), make([]byte, 95)), 20), api.ErrForm, api.ErrForm},
		{"4 words, a wrong sum", change(known, 0, 0x44), api.ErrForm, api.ErrForm},
		{"0 words", change(known, 0, 0x40), api.ErrForm, api.ErrForm},
		{"6 words of 5, fewer in all", head(6, 3)[:20], api.ErrShort, api.ErrShort},
		{"6 words less a byte", head(6, 24)[:23], api.ErrShort, api.ErrShort},
		{"15 words less a byte", head(15, 60)[:59], api.ErrShort, api.ErrShort},
		{"19 in all, a wrong sum", change(head(5, 19), 8, 9), api.ErrForm, api.ErrForm},
		{"19 in all", head(5, 19), api.ErrForm, api.ErrForm},
		{"0 in all", head(5, 0), api.ErrForm, api.ErrForm},
		{"23 in all of 6 words", head(6, 23), api.ErrForm, api.ErrForm},
		{"a wrong sum, wrong options", change(head(6, 24, 2), 8, 9), api.ErrSum, api.ErrSum},
		{"a wrong sum, and short", change(head(5, 25), 8, 9), api.ErrSum, api.ErrSum},
		{"a sum of 0", slices.Concat(known[:10], []byte{0, 0}, known[12:]), api.ErrSum, api.ErrSum},
		{"wrong options, and short", head(6, 25, 2), api.ErrForm, api.ErrForm},
		{"short", head(5, 21), api.ErrShort, api.OK},
		{"short by far", head(5, 65535), api.ErrShort, api.OK},
		{"short, and no fragment", sealed(change(head(5, 29), 6, 0x20), 20), api.ErrShort, api.OK},
		{"no fragment", append(sealed(change(head(5, 21), 6, 0x20), 20), 1), api.ErrForm, api.OK},
		{"one byte in all more than the head has", append(head(5, 21), 1), api.OK, api.OK},
		{"just the head", head(5, 20), api.OK, api.OK},
		{"just a long head", head(15, 60), api.OK, api.OK},
	}
	for _, r := range rows {
		if h, body, e := Get(r.b); e != r.get {
			t.Errorf("Get of %s, % x: %+v, %d bytes, %d; want %d", r.name, r.b, h, len(body), e, r.get)
		}
		if h, body, e := Cut(r.b); e != r.cut {
			t.Errorf("Cut of %s, % x: %+v, %d bytes, %d; want %d", r.name, r.b, h, len(body), e, r.cut)
		}
		wantAsTold(t, r.b)
	}
}

// P6.1: however many bytes of a packet are there, and however many behind it.
func TestShort(t *testing.T) {
	for _, words := range []int{5, 6, 15} {
		h := Head{Ttl: 9, Options: bytes.Repeat([]byte{1}, 4*words-20)}
		body := fill(24)
		all, _ := slowPut(h, body)
		for n := range len(all) {
			wantGet(t, all[:n], Head{}, nil, api.ErrShort)
			if n < 4*words {
				wantCut(t, all[:n], Head{}, nil, api.ErrShort)
			} else {
				wantCut(t, all[:n], h, body[:n-4*words], api.OK)
			}
		}
		for _, behind := range []int{0, 1, 26, 1 << 17} {
			b := slices.Concat(all, fill(behind))
			wantGet(t, b, h, body, api.OK)
			wantCut(t, b, h, body, api.OK)
		}
	}
}

// P6.1: each value of the first byte, with as many bytes as any head may have, and with fewer.
func TestFirstByte(t *testing.T) {
	for v := range 256 {
		n := max(20, v%16*4)
		b := bytes.Repeat([]byte{1}, 60)
		b[0], b[2], b[3], b[6], b[7] = byte(v), 0, 60, 0, 0
		b = sealed(b, n)
		wantAsTold(t, b)
		for _, left := range []int{19, 20, n - 1, n} {
			wantAsTold(t, b[:left])
		}
		if _, _, e := Get(b); (e == api.OK) != (v >= 0x45 && v <= 0x4f) {
			t.Errorf("first byte %02x: %d", v, e)
		}
	}
}

// P6.1: how many bytes there are said to be in all, around what there are.
func TestSaid(t *testing.T) {
	for _, words := range []int{5, 7, 15} {
		for said := range 100 {
			b := slices.Concat(head(words, said), fill(20))
			wantAsTold(t, b)
			_, body, e := Get(b)
			want := api.OK
			if said < 4*words {
				want = api.ErrForm
			} else if said > len(b) {
				want = api.ErrShort
			}
			if e != want || e == api.OK && len(body) != said-4*words {
				t.Errorf("%d said of %d words: %d bytes, %d; want %d", said, words, len(body), e, want)
			}
		}
	}
}

// wantOptions asks whether options may be, of Get, Cut and Put.
func wantOptions(t *testing.T, o []byte, may bool) {
	t.Helper()
	h, body := Head{Proto: 1, Options: o}, []byte{1, 2}
	if !may {
		wantPut(t, h, body, nil, api.ErrArg)
		if len(o) <= 40 && len(o)%4 == 0 {
			b := append(head(5+len(o)/4, 22+len(o), o...), body...)
			wantGet(t, b, Head{}, nil, api.ErrForm)
			wantCut(t, b, Head{}, nil, api.ErrForm)
		}
		return
	}
	b, e := Put(h, body)
	if e != api.OK {
		t.Errorf("Put of options % x: %d", o, e)
		return
	}
	wantGet(t, b, h, body, api.OK)
	wantCut(t, b, h, body, api.OK)
}

// P6.1, P6.2: options that may be, and that may not.
func TestOptions(t *testing.T) {
	rows := []struct {
		o   []byte
		may bool
	}{
		{nil, true},
		{[]byte{}, true},
		{[]byte{0, 0, 0, 0}, true},
		{[]byte{1, 1, 1, 1}, true},
		{[]byte{1, 1, 1, 0}, true},
		{[]byte{0, 2, 0, 9}, true}, // behind the end nothing is looked at
		{[]byte{0, 1, 1, 2}, true},
		{[]byte{1, 0, 7, 255}, true},
		{[]byte{7, 4, 0, 0}, true},
		{[]byte{7, 3, 0, 0}, true},
		{[]byte{7, 3, 9, 1}, true},
		{[]byte{7, 2, 0, 9}, true},
		{[]byte{7, 2, 7, 2}, true},
		{[]byte{1, 1, 7, 2}, true},
		{[]byte{255, 4, 255, 255}, true},
		{[]byte{7, 2, 7, 3}, false},
		{[]byte{7, 5, 0, 0}, false},
		{[]byte{7, 1, 0, 0}, false},
		{[]byte{7, 0, 0, 0}, false},
		{[]byte{7, 255, 0, 0}, false},
		{[]byte{1, 1, 1, 2}, false},
		{[]byte{7, 3, 0, 7}, false},
		{[]byte{2, 1, 1, 1}, false},
		{[]byte{7, 8, 0, 0, 0, 0, 0, 0}, true},
		{[]byte{7, 6, 0, 0, 0, 0, 7, 2}, true},
		{[]byte{7, 9, 0, 0, 0, 0, 0, 0}, false},
		{[]byte{1, 7, 7, 0, 0, 0, 0, 0}, true},
		{[]byte{1, 7, 8, 0, 0, 0, 0, 0}, false},
		{append([]byte{7, 40}, make([]byte, 38)...), true},
		{append([]byte{7, 41}, make([]byte, 38)...), false},
		{[]byte{0}, false},
		{[]byte{1, 1}, false},
		{[]byte{7, 3, 4}, false},
		{make([]byte, 44), false},
		{bytes.Repeat([]byte{1}, 44), false},
		{append([]byte{7, 44}, make([]byte, 42)...), false},
		{make([]byte, 65536), false},
	}
	for _, r := range rows {
		wantOptions(t, r.o, r.may)
	}
	for n := range 50 {
		wantOptions(t, bytes.Repeat([]byte{1}, n), n <= 40 && n%4 == 0)
		wantOptions(t, make([]byte, n), n <= 40 && n%4 == 0)
	}
}

// P6.1, P6.2: every four bytes of those that make a difference, and what is random.
func TestManyOptions(t *testing.T) {
	some := []byte{0, 1, 2, 3, 4, 5, 255}
	for _, a := range some {
		for _, b := range some {
			for _, c := range some {
				for _, d := range some {
					o := []byte{a, b, c, d}
					wantOptions(t, o, slowOptions(o))
				}
			}
		}
	}
	r := rand.New(rand.NewSource(2))
	for range 5000 {
		o := make([]byte, 4*r.Intn(11))
		for i := range o {
			o[i] = byte(r.Intn(8))
		}
		wantOptions(t, o, slowOptions(o))
	}
}

// P6.1, P6.2: a fragment ends at 65535 at most, and is a multiple of 8 if more follow.
func TestFragments(t *testing.T) {
	rows := []struct {
		offset, n  int
		more, last bool // whether it may be, if there is More, and if there is not
	}{
		{0, 0, true, true},
		{0, 1, false, true},
		{0, 7, false, true},
		{0, 8, true, true},
		{0, 12, false, true},
		{1, 9, false, true},
		{1, 16, true, true},
		{8191, 0, true, true},
		{8191, 7, false, true},
		{8191, 8, false, false},
		{8190, 8, true, true},
		{8190, 15, false, true},
		{8190, 16, false, false},
		{4096, 32767, false, true},
		{4096, 32768, false, false},
		{4096, 32760, true, true},
		{3, 65511, false, true},
		{3, 65512, false, false},
		{2, 65512, true, true},
	}
	for _, r := range rows {
		for _, more := range []bool{false, true} {
			may := r.last
			if more {
				may = r.more
			}
			h, body := Head{Offset: r.offset, More: more, Ttl: 1}, fill(r.n)
			b := head(5, 20+r.n)
			b[6], b[7], b[8], b[9] = byte(r.offset>>8), byte(r.offset), 1, 0
			clear(b[12:])
			if more {
				b[6] |= 0x20
			}
			b = slices.Concat(sealed(b, 20), body)
			if may {
				wantGet(t, b, h, body, api.OK)
				wantPut(t, h, body, b, api.OK)
			} else {
				wantGet(t, b, Head{}, nil, api.ErrForm)
				wantPut(t, h, body, nil, api.ErrArg)
			}
			wantCut(t, b, h, body, api.OK)
		}
	}
}

// P6.2: an Offset that may not be, and more bytes than may be.
func TestPutErrors(t *testing.T) {
	for _, offset := range []int{-1, -8, -8192, 8192, 65536, 1 << 61, 1 << 60, math.MaxInt, math.MinInt, math.MinInt / 8} {
		for _, n := range []int{0, 8, 65536} {
			wantPut(t, Head{Offset: offset}, fill(n), nil, api.ErrArg)
			wantPut(t, Head{Offset: offset, More: true}, fill(n), nil, api.ErrArg)
		}
	}
	rows := []struct {
		options, n int
		want       api.Errno
	}{
		{0, 65515, api.OK},
		{0, 65516, api.ErrLong},
		{0, 65535, api.ErrLong},
		{0, 65536, api.ErrArg},
		{0, 1 << 20, api.ErrArg},
		{40, 65475, api.OK},
		{40, 65476, api.ErrLong},
		{40, 65536, api.ErrArg},
		{44, 65476, api.ErrArg},
		{3, 65516, api.ErrArg},
	}
	for _, r := range rows {
		h, body := Head{Dst: 7, Options: make([]byte, r.options)}, fill(r.n)
		want, e := slowPut(h, body)
		if e != r.want {
			t.Fatalf("%d options, %d bytes: %d, want %d", r.options, r.n, e, r.want)
		}
		wantPut(t, h, body, want, r.want)
		if e == api.OK {
			wantGet(t, want, h, body, api.OK)
		}
	}
	wantPut(t, Head{More: true}, fill(65516), nil, api.ErrArg)
	wantPut(t, Head{More: true}, fill(65520), nil, api.ErrLong)
}

// P6.2: which fragment it is.
func TestFirstAndLater(t *testing.T) {
	rows := []struct {
		h            Head
		first, later bool
	}{
		{Head{}, false, false},
		{Head{More: true}, true, false},
		{Head{Df: true, Evil: true}, false, false},
		{Head{Offset: 1}, false, true},
		{Head{Offset: 1, More: true}, false, true},
		{Head{Offset: 8191}, false, true},
		{Head{Offset: 8192, More: true}, false, true},
		{Head{Offset: -1}, false, false},
		{Head{Offset: -1, More: true}, false, false},
	}
	for _, r := range rows {
		if r.h.First() != r.first || r.h.Later() != r.later {
			t.Errorf("%+v: %v, %v", r.h, r.h.First(), r.h.Later())
		}
	}
}

// P6.4: there and back, whatever stands behind.
func TestThereAndBack(t *testing.T) {
	r := rand.New(rand.NewSource(3))
	options := 0
	for range 10000 {
		h, body := randomHead(r)
		options += min(len(h.Options), 1)
		want, e := slowPut(h, body)
		if e != api.OK {
			t.Fatalf("%+v: %d", h, e)
		}
		wantPut(t, h, body, want, api.OK)
		b := slices.Concat(want, randomFill(r, 60))
		wantGet(t, b, h, body, api.OK)
		wantCut(t, b, h, body, api.OK)
		wantAsTold(t, b[:r.Intn(len(b)+1)])
	}
	if options < 1000 {
		t.Errorf("too few have options: %d", options)
	}
}

// P6.4: back and there, of bytes that are near to what may be.
func TestBackAndThere(t *testing.T) {
	r := rand.New(rand.NewSource(4))
	got := 0
	for range 30000 {
		h, body := randomHead(r)
		b, _ := slowPut(h, body)
		n := 20 + len(h.Options)
		for range r.Intn(3) {
			b[r.Intn(n)] = byte(r.Intn(256))
		}
		if r.Intn(3) == 0 {
			b[0] = byte(0x40 + r.Intn(16))
		}
		if r.Intn(5) > 0 {
			b = sealed(b, min(len(b), max(20, int(b[0]%16)*4)))
		}
		b = slices.Concat(b, randomFill(r, 9))
		wantAsTold(t, b)
		h, body, e := Get(b)
		if e != api.OK {
			continue
		}
		got++
		said := int(b[2])<<8 | int(b[3])
		if b[10] == 0xff && b[11] == 0xff {
			b[10], b[11] = 0, 0 // a head does not tell which of both its sum was
		}
		wantPut(t, h, body, b[:said], api.OK)
	}
	if got < 2000 {
		t.Errorf("too few were got: %d", got)
	}
}

// P6.1: a sum that stands as ffff in place of 0 is right, too; it is laid as 0.
func TestSumOfNought(t *testing.T) {
	h := Head{Id: 0xbaeb}
	b := []byte{0x45, 0, 0, 20, 0xba, 0xeb, 0, 0, 0, 0, 0, 0, 0, 0, 0, 0, 0, 0, 0, 0}
	wantPut(t, h, nil, b, api.OK)
	wantGet(t, b, h, nil, api.OK)
	b[10], b[11] = 0xff, 0xff
	wantGet(t, b, h, nil, api.OK)
	wantCut(t, b, h, nil, api.OK)
}

// earlier tells whether a head has an error that is asked ahead of its sum.
func earlier(b []byte) bool {
	return b[0]>>4 != 4 || b[0]&15 < 5 || len(b) < int(b[0]&15)*4 || int(b[2])<<8|int(b[3]) < int(b[0]&15)*4
}

// P6.5: with a word changed a head is refused.
func TestChangedWord(t *testing.T) {
	r := rand.New(rand.NewSource(5))
	for range 1000 {
		h, body := randomHead(r)
		b, _ := slowPut(h, body)
		n := 20 + len(h.Options)
		for at := 0; at < n; at += 2 {
			for range 20 {
				c := slices.Clone(b)
				switch r.Intn(4) {
				case 0:
					c[at] ^= 1 << r.Intn(8)
				case 1:
					c[at+1] ^= 1 << r.Intn(8)
				default:
					c[at], c[at+1] = byte(r.Intn(256)), byte(r.Intn(256))
				}
				if at == 0 {
					c[0] = b[0] // of another count of words another sum is asked
				}
				was, is := int(b[at])<<8|int(b[at+1]), int(c[at])<<8|int(c[at+1])
				if was == is || was == 0 && is == 65535 || was == 65535 && is == 0 || earlier(c) {
					continue
				}
				wantGet(t, c, Head{}, nil, api.ErrSum)
				wantCut(t, c, Head{}, nil, api.ErrSum)
			}
		}
	}
}

// P6.5: of every word of a head every other value, but the one that is as good.
func TestEveryWord(t *testing.T) {
	b := slices.Clone(known)
	b[4], b[5], b[8], b[9] = 0xff, 0xff, 0, 0
	b = slices.Concat(sealed(b, 20), make([]byte, 95))
	for at := 4; at < 20; at += 2 {
		was := int(b[at])<<8 | int(b[at+1])
		for v := range 1 << 16 {
			c := slices.Clone(b)
			c[at], c[at+1] = byte(v>>8), byte(v)
			right := v == was || v == 0 && was == 65535 || v == 65535 && was == 0
			if _, _, e := Cut(c); (e == api.OK) != right || e != api.OK && e != api.ErrSum {
				t.Errorf("place %d, %04x in place of %04x: %d", at, v, was, e)
			}
		}
	}
}

// P6.3: addresses and their texts.
func TestText(t *testing.T) {
	rows := map[api.IP]string{
		0:          "0.0.0.0",
		0xffffffff: "255.255.255.255",
		0x01020304: "1.2.3.4",
		0x0a630064: "10.99.0.100",
		0x80ff7f09: "128.255.127.9",
		0xc8000000: "200.0.0.0",
		0x000000c8: "0.0.0.200",
	}
	for ip, text := range rows {
		if s := Text(ip); s != text {
			t.Errorf("Text of %08x: %s, want %s", uint32(ip), s, text)
		}
		if got, e := Parse(text); e != api.OK || got != ip {
			t.Errorf("Parse of %s: %08x, %d", text, uint32(got), e)
		}
	}
}

// P6.3, P6.6: each number at each place, and what is random.
func TestTextAndBack(t *testing.T) {
	want := func(ip api.IP) {
		t.Helper()
		if got, e := Parse(Text(ip)); e != api.OK || got != ip {
			t.Errorf("Parse of %s: %08x, %d; want %08x", Text(ip), uint32(got), e, uint32(ip))
		}
	}
	for v := range 256 {
		for shift := 0; shift < 32; shift += 8 {
			want(api.IP(v) << shift)
			want(^(api.IP(v) << shift))
		}
	}
	r := rand.New(rand.NewSource(6))
	for range 5000 {
		want(api.IP(r.Uint32()))
	}
}

// noAddresses are near to being texts of addresses.
func noAddresses() []string {
	l := []string{
		"", ".", "...", "....", "1", "1.2", "1.2.3", "1.2.3.", ".1.2.3", "1.2.3.4.", ".1.2.3.4", "1.2.3.4.5", "1..2.3", "1.2..3.4", "1.2.3..4",
		"1.2.3.256", "256.2.3.4", "1.256.3.4", "1.2.300.4", "1.2.3.1000", "1.2.3.99999999999999999999999",
		"1.2.3.04", "01.2.3.4", "1.00.3.4", "1.2.000.4", "1.2.3.0255", "00.0.0.0",
		" 1.2.3.4", "1.2.3.4 ", "1. 2.3.4", "1.2.3.4\n", "1.2.3.4\x00", "+1.2.3.4", "1.-2.3.4", "1.2.-0.4", "1.2.3.+0",
		"1,2,3,4", "1.2.3,4", "1:2:3:4", "0x1.2.3.4", "1.2.3.0x4", "1.2.3.a", "a.b.c.d", "1.2.3.4a", "1_0.2.3.4", "1.2.3.1_0", "1e1.2.3.4", "1.2.3.4/", "1.2.3.4/8",
		"1.2.3.\u0664", "\uff11.2.3.4", "\xff.2.3.4", "02:00:5e:10:00:ff", "nought", "16909060",
	}
	for v := 256; v < 1100; v++ {
		l = append(l, "1.2.3."+strconv.Itoa(v), strconv.Itoa(v)+".0.0.0")
	}
	for v := range 256 {
		l = append(l, "1.0"+strconv.Itoa(v)+".3.4")
	}
	for c := range 256 {
		if c < '0' || c > '9' {
			l = append(l, "1.2.3."+string([]byte{byte(c)}), "1"+string([]byte{byte(c)})+".2.3.4")
		}
		if c != '.' && (c < '0' || c > '9') {
			l = append(l, "1.2"+string([]byte{byte(c)})+"3.4")
		}
	}
	return append(l, strings.Repeat("1.", 1<<20), strings.Repeat("1", 1<<20), strings.Repeat("1", 1<<20)+".2.3.4")
}

// P6.3: wrong texts, also with what may stand behind an address.
func TestNoAddress(t *testing.T) {
	for _, s := range noAddresses() {
		told := s[:min(len(s), 50)]
		if ip, e := Parse(s); e != api.ErrForm || ip != 0 {
			t.Errorf("Parse of %q: %08x, %d", told, uint32(ip), e)
		}
		if strings.Contains(s, "/8") {
			continue
		}
		for _, behind := range []string{"", "/8", "/32", "/33", "/99", "/x"} {
			if p, e := ParsePrefix(s + behind); e != api.ErrForm || p != (Prefix{}) {
				t.Errorf("ParsePrefix of %q and %q: %+v, %d", told, behind, p, e)
			}
		}
	}
}

// P6.3: what may stand behind the address.
func TestParsePrefix(t *testing.T) {
	rows := []struct {
		behind string
		want   Prefix
		e      api.Errno
	}{
		{"", Prefix{0xffeeddcc, 32}, api.OK},
		{"/32", Prefix{0xffeeddcc, 32}, api.OK},
		{"/31", Prefix{0xffeeddcc, 31}, api.OK},
		{"/30", Prefix{0xffeeddcc, 30}, api.OK},
		{"/29", Prefix{0xffeeddc8, 29}, api.OK},
		{"/24", Prefix{0xffeedd00, 24}, api.OK},
		{"/10", Prefix{0xffc00000, 10}, api.OK},
		{"/9", Prefix{0xff800000, 9}, api.OK},
		{"/8", Prefix{0xff000000, 8}, api.OK},
		{"/1", Prefix{0x80000000, 1}, api.OK},
		{"/0", Prefix{0, 0}, api.OK},
		{"/33", Prefix{}, api.ErrRange},
		{"/40", Prefix{}, api.ErrRange},
		{"/99", Prefix{}, api.ErrRange},
		{"/", Prefix{}, api.ErrForm},
		{"//", Prefix{}, api.ErrForm},
		{"//8", Prefix{}, api.ErrForm},
		{"/8/", Prefix{}, api.ErrForm},
		{"/8/8", Prefix{}, api.ErrForm},
		{"/00", Prefix{}, api.ErrForm},
		{"/08", Prefix{}, api.ErrForm},
		{"/032", Prefix{}, api.ErrForm},
		{"/100", Prefix{}, api.ErrForm},
		{"/255", Prefix{}, api.ErrForm},
		{"/256", Prefix{}, api.ErrForm},
		{"/320", Prefix{}, api.ErrForm},
		{"/99999999999999999999", Prefix{}, api.ErrForm},
		{"/+8", Prefix{}, api.ErrForm},
		{"/-8", Prefix{}, api.ErrForm},
		{"/-0", Prefix{}, api.ErrForm},
		{"/ 8", Prefix{}, api.ErrForm},
		{"/8 ", Prefix{}, api.ErrForm},
		{" /8", Prefix{}, api.ErrForm},
		{"/a", Prefix{}, api.ErrForm},
		{"/1a", Prefix{}, api.ErrForm},
		{"/8.", Prefix{}, api.ErrForm},
		{"/_8", Prefix{}, api.ErrForm},
		{"/255.255.255.0", Prefix{}, api.ErrForm},
		{"/\xff", Prefix{}, api.ErrForm},
		{"\\8", Prefix{}, api.ErrForm},
	}
	for _, r := range rows {
		if p, e := ParsePrefix("255.238.221.204" + r.behind); p != r.want || e != r.e {
			t.Errorf("ParsePrefix with %q behind: %+v, %d; want %+v, %d", r.behind, p, e, r.want, r.e)
		}
	}
	for n := range 1200 {
		p, e := ParsePrefix("255.255.255.255/" + strconv.Itoa(n))
		want := Prefix{slowMask(n), n}
		wantErr := api.OK
		if n > 32 {
			want, wantErr = Prefix{}, api.ErrRange
		}
		if n > 99 {
			wantErr = api.ErrForm
		}
		if p != want || e != wantErr {
			t.Errorf("%d bits: %+v, %d", n, p, e)
		}
	}
}

// slowMask has n ones in front, bit by bit.
func slowMask(n int) api.IP {
	var mask uint64
	for i := range 32 {
		mask *= 2
		if i < n {
			mask++
		}
	}
	return api.IP(mask)
}

// P6.3: of any prefix, also of one that is made by hand.
func TestPrefixText(t *testing.T) {
	rows := []struct {
		p    Prefix
		want string
	}{
		{Prefix{}, "0.0.0.0/0"},
		{Prefix{0xffffffff, 0}, "0.0.0.0/0"},
		{Prefix{0xffffffff, 1}, "128.0.0.0/1"},
		{Prefix{0x0a010203, 8}, "10.0.0.0/8"},
		{Prefix{0x0a010203, 31}, "10.1.2.2/31"},
		{Prefix{0x0a010203, 32}, "10.1.2.3"},
		{Prefix{0x0a010203, 33}, "10.1.2.3"},
		{Prefix{0x0a010203, 64}, "10.1.2.3"},
		{Prefix{0x0a010203, math.MaxInt}, "10.1.2.3"},
		{Prefix{0x0a010203, -1}, "0.0.0.0/0"},
		{Prefix{0x0a010203, -32}, "0.0.0.0/0"},
		{Prefix{0x0a010203, math.MinInt}, "0.0.0.0/0"},
	}
	for _, r := range rows {
		if s := r.p.Text(); s != r.want {
			t.Errorf("%+v: %s, want %s", r.p, s, r.want)
		}
	}
}

// P6.3: which addresses a prefix has.
func TestHas(t *testing.T) {
	for _, n := range []int{math.MinInt, -33, -1, 0, 1, 2, 7, 8, 9, 15, 16, 17, 23, 24, 25, 30, 31, 32, 33, 40, 64, math.MaxInt} {
		for _, base := range []api.IP{0, 0xffffffff, 0x0a010203, 0xc0a80780} {
			p := Prefix{base, n} // its other bits may be ones
			if !p.Has(base) {
				t.Errorf("%+v has not its base", p)
			}
			for bit := range 32 {
				ip := base ^ 1<<(31-bit)
				if has := p.Has(ip); has != (bit >= n) {
					t.Errorf("%+v has %s: %v", p, Text(ip), has)
				}
				if has := p.Has(ip ^ 1); bit < min(n, 31) && has {
					t.Errorf("%+v has %s", p, Text(ip^1))
				}
			}
		}
	}
}

// P6.6: a prefix's text is read as the prefix.
func TestPrefixAndBack(t *testing.T) {
	r := rand.New(rand.NewSource(7))
	for range 5000 {
		n := r.Intn(33)
		p := Prefix{api.IP(r.Uint32()) & slowMask(n), n}
		if got, e := ParsePrefix(p.Text()); e != api.OK || got != p {
			t.Errorf("ParsePrefix of %s: %+v, %d; want %+v", p.Text(), got, e, p)
		}
		other := Prefix{p.Base | api.IP(r.Uint32())&^slowMask(n), n}
		if got, e := ParsePrefix(other.Text()); e != api.OK || got != p {
			t.Errorf("ParsePrefix of %+v's text: %+v, %d; want %+v", other, got, e, p)
		}
	}
}

// P6.6: more bits have no address that fewer have not.
func TestNarrower(t *testing.T) {
	r := rand.New(rand.NewSource(8))
	for range 20000 {
		base, n := api.IP(r.Uint32()), r.Intn(33)
		ip := base ^ api.IP(uint64(r.Uint32())>>r.Intn(33))
		more := Prefix{base, n + r.Intn(33-n)}
		if less := (Prefix{base, n}); more.Has(ip) && !less.Has(ip) {
			t.Errorf("%+v has %s, %+v has it not", more, Text(ip), less)
		}
		if want := (ip^base)&slowMask(n) == 0; (Prefix{base, n}).Has(ip) != want {
			t.Errorf("%s/%d has %s: not %v", Text(base), n, Text(ip), want)
		}
	}
}

// R3: what is told is new memory; no two lists of one answer share any.
func TestSharesNothing(t *testing.T) {
	h := Head{Options: []byte{7, 4, 5, 6}}
	body := fill(8)
	b, _ := Put(h, body)
	h.Options[2], body[0] = 99, 99
	want := slices.Clone(b)
	wantBytes(t, "what is put, behind a change", b[20:], []byte{7, 4, 5, 6, 1, 2, 3, 4, 5, 6, 7, 8})
	for _, read := range []func([]byte) (Head, []byte, api.Errno){Get, Cut} {
		g, rest, e := read(b)
		if e != api.OK {
			t.Fatal(e)
		}
		g.Options[2], rest[0] = 77, 77
		_, _ = append(g.Options, 66, 66), append(rest, 66, 66)
		wantBytes(t, "what is read, behind a change", b, want)
		if rest[0] != 77 || rest[1] != 2 || g.Options[2] != 77 {
			t.Errorf("% x, % x", g.Options, rest)
		}
		g, rest, _ = read(b)
		clear(b)
		wantBytes(t, "options, behind a change", g.Options, []byte{7, 4, 5, 6})
		wantBytes(t, "a body, behind a change", rest, fill(8))
		copy(b, want)
	}
	long := slices.Concat(want, fill(8))
	_, rest, _ := Get(long)
	_ = append(rest, 99)
	wantBytes(t, "what stands behind", long[len(want):], fill(8))
	wide := append(make([]byte, 0, 50), 1, 2, 3)
	b, _ = Put(Head{}, wide)
	_ = append(wide, 9)
	_ = append(b, 9, 9)
	wantBytes(t, "a body with room", b[20:], []byte{1, 2, 3})
}

// The rows of the chapter's section 'Examples'.
func TestExamples(t *testing.T) {
	if s := Sum([]byte{0x00, 0x01, 0xf2, 0x03, 0xf4, 0xf5, 0xf6, 0xf7}); s != 0x220d {
		t.Errorf("%04x", s)
	}
	p, e := ParsePrefix("10.1.2.3/8")
	if e != api.OK || p.Text() != "10.0.0.0/8" {
		t.Errorf("%s, %d", p.Text(), e)
	}
}
