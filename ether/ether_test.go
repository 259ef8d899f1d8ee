package ether

import (
	"bytes"
	"math/rand"
	"slices"
	"testing"

	"toll/api"
	"toll/tag"
)

var (
	here  = api.Mac{2, 0, 0, 0, 0, 1}
	there = api.Mac{0xfe, 0xff, 0x80, 0x81, 0, 6}
	ends  = []byte{2, 0, 0, 0, 0, 1, 0xfe, 0xff, 0x80, 0x81, 0, 6} // here and there
	outer = tag.Tag{Kind: tag.Outer, Priority: 7, Drop: true, Number: 4095}
	inner = tag.Tag{Kind: tag.Inner, Priority: 1, Number: 5}
	snap  = [3]byte{0xaa, 0xaa, 0x03}
	oui   = [3]byte{0x00, 0x00, 0x0c}
)

// same holds frames against each other; nil and empty lists are one (R4).
func same(f, g Frame) bool {
	return f.Dst == g.Dst && f.Src == g.Src && slices.Equal(f.Tags, g.Tags) && f.Kind == g.Kind && f.Type == g.Type &&
		f.Llc == g.Llc && f.Oui == g.Oui && bytes.Equal(f.Body, g.Body) && bytes.Equal(f.Rest, g.Rest)
}

// short keeps what a test tells of long bytes legible.
func short(b []byte) []byte { return b[:min(len(b), 40)] }

// told is a frame of which little is told.
func told(f Frame) Frame {
	f.Body, f.Rest = short(f.Body), short(f.Rest)
	return f
}

func wantBytes(t *testing.T, name string, got, want []byte) {
	t.Helper()
	if !bytes.Equal(got, want) {
		t.Errorf("%s: %d bytes % x, want %d: % x", name, len(got), short(got), len(want), short(want))
	}
}

// wantGet asks Get and Behind, as one has the other's error; by R2 there is nothing beside an error, and by R3 b stays.
func wantGet(t *testing.T, b []byte, want Frame, wantErr api.Errno) {
	t.Helper()
	before := slices.Clone(b)
	if f, e := Get(b); e != wantErr || !same(f, want) {
		t.Errorf("Get of %d bytes % x: %+v, %d; want %+v, %d", len(b), short(b), told(f), e, told(want), wantErr)
	}
	var behind []byte
	if wantErr == api.OK {
		behind = before[12:]
	}
	got, e := Behind(b)
	if e != wantErr {
		t.Errorf("Behind of %d bytes % x: %d, want %d", len(b), short(b), e, wantErr)
	}
	wantBytes(t, "Behind", got, behind)
	wantBytes(t, "what was handed in", b, before)
}

// wantPut asks for want, or, by R2, for nothing beside an error.
func wantPut(t *testing.T, name string, f Frame, want []byte, wantErr api.Errno) {
	t.Helper()
	b, e := Put(f)
	if e != wantErr {
		t.Errorf("Put of %s, %+v: %d, want %d", name, told(f), e, wantErr)
	}
	wantBytes(t, "Put of "+name, b, want)
}

// after lays parts behind the addresses.
func after(parts ...[]byte) []byte {
	return slices.Concat(ends, slices.Concat(parts...))
}

// counted lays a count, and as many bytes of LLC, the first ones told.
func counted(n int, first ...byte) []byte {
	b := slices.Concat([]byte{byte(n >> 8), byte(n)}, make([]byte, max(n, len(first))))
	copy(b[2:], first)
	return b[:2+n]
}

// fill is n bytes, each its place's.
func fill(n int) []byte {
	b := make([]byte, n)
	for i := range b {
		b[i] = byte(i + 1)
	}
	return b
}

// slowGet reads place by place, as the chapter tells it.
func slowGet(b []byte) (Frame, api.Errno) {
	if len(b) > 65535 {
		return Frame{}, api.ErrLong
	}
	if len(b) < 12 {
		return Frame{}, api.ErrShort
	}
	f := Frame{Dst: api.Mac(b[:6]), Src: api.Mac(b[6:12])}
	at := 12
	two := func() int { return int(b[at])<<8 | int(b[at+1]) }
	for len(b) >= at+2 && len(f.Tags) < 2 && (two() == 0x8100 || two() == 0x88a8 && len(f.Tags) == 0) {
		if len(b) < at+4 {
			return Frame{}, api.ErrShort
		}
		f.Tags = append(f.Tags, tag.Tag{Kind: uint16(two()), Priority: b[at+2] >> 5, Drop: b[at+2]&16 != 0, Number: uint16(b[at+2]&15)<<8 | uint16(b[at+3])})
		at += 4
	}
	if len(b) < at+2 {
		return Frame{}, api.ErrShort
	}
	n := two()
	at += 2
	if n >= 1536 {
		f.Kind, f.Type, f.Body = 1, n, b[at:]
		return f, api.OK
	}
	if n > 1500 {
		return Frame{}, api.ErrForm
	}
	if n > len(b)-at {
		return Frame{}, api.ErrShort
	}
	llc := b[at : at+n]
	f.Rest = b[at+n:]
	if n < 3 {
		return Frame{}, api.ErrForm
	}
	f.Llc = [3]byte(llc[:3])
	if llc[0] != 0xaa || llc[1] != 0xaa || llc[2] != 3 {
		f.Kind, f.Body = 2, llc[3:]
		return f, api.OK
	}
	if n < 8 {
		return Frame{}, api.ErrForm
	}
	f.Kind, f.Oui, f.Type, f.Body = 3, [3]byte(llc[3:6]), int(llc[6])<<8|int(llc[7]), llc[8:]
	return f, api.OK
}

// slowPut asks one thing of the chapter after the other.
func slowPut(f Frame) ([]byte, api.Errno) {
	tags, ok := slowTags(f.Tags)
	b := slices.Concat(f.Dst[:], f.Src[:], tags)
	var head []byte
	switch f.Kind {
	case 1:
		read := f.Type == 0x8100 && len(f.Tags) < 2 || f.Type == 0x88a8 && len(f.Tags) < 1
		ok = ok && f.Type >= 1536 && f.Type < 65536 && !read && f.Llc == [3]byte{0, 0, 0} && f.Oui == [3]byte{0, 0, 0} && len(f.Rest) == 0
		b = append(b, byte(f.Type>>8), byte(f.Type))
	case 2:
		ok = ok && f.Type == 0 && f.Oui == [3]byte{0, 0, 0} && string(f.Llc[:]) != "\xaa\xaa\x03" && len(f.Body) <= 1497
		head = f.Llc[:]
	case 3:
		ok = ok && f.Type >= 0 && f.Type < 65536 && string(f.Llc[:]) == "\xaa\xaa\x03" && len(f.Body) <= 1492
		head = slices.Concat(f.Llc[:], f.Oui[:], []byte{byte(f.Type >> 8), byte(f.Type)})
	default:
		ok = false
	}
	if !ok {
		return nil, api.ErrArg
	}
	if f.Kind != 1 {
		n := len(head) + len(f.Body)
		b = append(b, byte(n>>8), byte(n))
	}
	b = slices.Concat(b, head, f.Body, f.Rest)
	if len(b) > 65539 {
		return nil, api.ErrLong
	}
	return b, api.OK
}

// slowTags lays tags, and tells whether they may be a stack.
func slowTags(l []tag.Tag) (b []byte, may bool) {
	may = len(l) < 2 || len(l) == 2 && l[1].Kind == 0x8100
	for _, x := range l {
		may = may && (x.Kind == 0x88a8 || x.Kind == 0x8100) && x.Priority < 8 && x.Number < 4096
		word := x.Number + uint16(x.Priority)*8192
		if x.Drop {
			word += 4096
		}
		b = append(b, byte(x.Kind>>8), byte(x.Kind), byte(word>>8), byte(word))
	}
	return b, may
}

func randomStack(r *rand.Rand) []tag.Tag {
	var l []tag.Tag
	for range r.Intn(3) {
		l = append(l, tag.Tag{Kind: tag.Inner, Priority: uint8(r.Intn(8)), Drop: r.Intn(2) == 0, Number: uint16(r.Intn(4096))})
	}
	if len(l) > 0 && r.Intn(2) == 0 {
		l[0].Kind = tag.Outer
	}
	return l
}

func randomMac(r *rand.Rand) api.Mac {
	var m api.Mac
	r.Read(m[:])
	return m
}

func randomFill(r *rand.Rand, most int) []byte {
	b := make([]byte, r.Intn(most+1))
	r.Read(b)
	return b
}

// randomFrame may be put.
func randomFrame(r *rand.Rand) Frame {
	f := Frame{Dst: randomMac(r), Src: randomMac(r), Tags: randomStack(r), Kind: 1 + r.Intn(3), Body: randomFill(r, 1492), Rest: randomFill(r, 60)}
	switch f.Kind {
	case Two:
		f.Type, f.Rest = 0x600+r.Intn(0x7000), nil
		if len(f.Tags) == 2 && r.Intn(2) == 0 {
			f.Type = []int{0x8100, 0x88a8}[r.Intn(2)]
		}
	case Llc:
		f.Llc = [3]byte{byte(r.Intn(256)), byte(r.Intn(256)), byte(r.Intn(3))}
	case Snap:
		f.Llc, f.Type = snap, r.Intn(65536)
		r.Read(f.Oui[r.Intn(3):])
	}
	return f
}

// randomBytes are near to what a frame may be, and often not one.
func randomBytes(r *rand.Rand) []byte {
	b := randomFill(r, 12)
	if r.Intn(10) > 0 {
		m := randomMac(r)
		b = append(m[:], m[:]...)
	}
	for range r.Intn(4) {
		switch r.Intn(5) {
		case 0:
			b = append(b, 0x88, 0xa8)
		case 1:
			b = append(b, 0x81, 0x00)
		default:
			b = append(b, []byte{0x81, 0, 5, 5}...)
		case 4:
			b = append(b, []byte{0x88, 0xa8, 5, 5}...)
		}
	}
	switch r.Intn(4) {
	case 0:
		b = append(b, byte(r.Intn(256)), byte(r.Intn(256)))
	case 1:
		b = append(b, byte(5+r.Intn(2)), byte(r.Intn(256)))
	default:
		b = append(b, 0, byte(r.Intn(14)))
	}
	if r.Intn(2) == 0 {
		b = append(b, 0xaa, 0xaa, 3)
	}
	return append(b, randomFill(r, 12)...)
}

// The numbers of the kinds are part of the chapter.
func TestKinds(t *testing.T) {
	if got := [...]int{Two, Llc, Snap}; got != [...]int{1, 2, 3} {
		t.Errorf("kinds: %v", got)
	}
}

// P4.1: what is in a frame, of each kind.
func TestGet(t *testing.T) {
	rows := []struct {
		b    []byte
		want Frame
	}{
		{after([]byte{0x08, 0x00}), Frame{Kind: Two, Type: 0x800}},
		{after([]byte{0x08, 0x00, 1, 2, 3}), Frame{Kind: Two, Type: 0x800, Body: []byte{1, 2, 3}}},
		{after([]byte{0x08, 0x06, 0x81, 0, 0, 5}), Frame{Kind: Two, Type: 0x806, Body: []byte{0x81, 0, 0, 5}}},
		{after([]byte{0xff, 0xff, 1}), Frame{Kind: Two, Type: 0xffff, Body: []byte{1}}},
		{after([]byte{0x81, 0x00, 0x20, 5, 8, 0, 1}), Frame{Tags: []tag.Tag{inner}, Kind: Two, Type: 0x800, Body: []byte{1}}},
		{after([]byte{0x88, 0xa8, 0xff, 0xff, 8, 0, 1}), Frame{Tags: []tag.Tag{outer}, Kind: Two, Type: 0x800, Body: []byte{1}}},
		{after([]byte{0x88, 0xa8, 0xff, 0xff, 0x81, 0, 0x20, 5, 8, 0}), Frame{Tags: []tag.Tag{outer, inner}, Kind: Two, Type: 0x800}},
		{after([]byte{0x81, 0, 0x20, 5, 0x81, 0, 0x20, 5, 8, 0}), Frame{Tags: []tag.Tag{inner, inner}, Kind: Two, Type: 0x800}},
		{after([]byte{0x81, 0, 0x20, 5, 0x81, 0, 0x20, 5, 0x81, 0}), Frame{Tags: []tag.Tag{inner, inner}, Kind: Two, Type: 0x8100}},
		{after([]byte{0x81, 0, 0x20, 5, 0x81, 0, 0x20, 5, 0x88, 0xa8, 7}), Frame{Tags: []tag.Tag{inner, inner}, Kind: Two, Type: 0x88a8, Body: []byte{7}}},
		{after([]byte{0x81, 0, 0x20, 5, 0x88, 0xa8, 0, 1, 8, 0}), Frame{Tags: []tag.Tag{inner}, Kind: Two, Type: 0x88a8, Body: []byte{0, 1, 8, 0}}},
		{after([]byte{0x88, 0xa8, 0xff, 0xff, 0x88, 0xa8}), Frame{Tags: []tag.Tag{outer}, Kind: Two, Type: 0x88a8}},
		{after([]byte{0, 3, 0x42, 0x42, 3}), Frame{Kind: Llc, Llc: [3]byte{0x42, 0x42, 3}}},
		{after([]byte{0, 3, 0x42, 0x42, 3, 0, 0}), Frame{Kind: Llc, Llc: [3]byte{0x42, 0x42, 3}, Rest: []byte{0, 0}}},
		{after([]byte{0, 5, 0x42, 0x42, 3, 9, 8, 7}), Frame{Kind: Llc, Llc: [3]byte{0x42, 0x42, 3}, Body: []byte{9, 8}, Rest: []byte{7}}},
		{after([]byte{0x81, 0, 0x20, 5, 0, 4, 0x42, 0x42, 3, 9}), Frame{Tags: []tag.Tag{inner}, Kind: Llc, Llc: [3]byte{0x42, 0x42, 3}, Body: []byte{9}}},
		{after([]byte{0, 3, 0, 0, 0}), Frame{Kind: Llc}},
		{after([]byte{0, 3, 0xaa, 0xaa, 2}), Frame{Kind: Llc, Llc: [3]byte{0xaa, 0xaa, 2}}},
		{after([]byte{0, 3, 0xaa, 0xab, 3}), Frame{Kind: Llc, Llc: [3]byte{0xaa, 0xab, 3}}},
		{after([]byte{0, 9, 0xab, 0xaa, 3, 0, 0, 0, 8, 6, 1}), Frame{Kind: Llc, Llc: [3]byte{0xab, 0xaa, 3}, Body: []byte{0, 0, 0, 8, 6, 1}}},
		{after([]byte{0, 8, 0xaa, 0xaa, 3, 0, 0, 0, 8, 6}), Frame{Kind: Snap, Llc: snap, Type: 0x806}},
		{after([]byte{0, 9, 0xaa, 0xaa, 3, 0, 0, 0xc, 0x20, 0, 1, 2, 3}), Frame{Kind: Snap, Llc: snap, Oui: oui, Type: 0x2000, Body: []byte{1}, Rest: []byte{2, 3}}},
		{after([]byte{0, 8, 0xaa, 0xaa, 3, 1, 2, 3, 0, 0}), Frame{Kind: Snap, Llc: snap, Oui: [3]byte{1, 2, 3}}},
		{after([]byte{0, 8, 0xaa, 0xaa, 3, 0, 0, 0, 0x81, 0, 0, 5}), Frame{Kind: Snap, Llc: snap, Type: 0x8100, Rest: []byte{0, 5}}},
		{after([]byte{0x88, 0xa8, 0xff, 0xff, 0, 8, 0xaa, 0xaa, 3, 0, 0, 0, 8, 6}), Frame{Tags: []tag.Tag{outer}, Kind: Snap, Llc: snap, Type: 0x806}},
	}
	for _, r := range rows {
		r.want.Dst, r.want.Src = here, there
		wantGet(t, r.b, r.want, api.OK)
	}
}

// P4.1: every number behind the addresses, with as many bytes behind it as it may count, and with one less.
func TestGetEveryNumber(t *testing.T) {
	long := make([]byte, 1500)
	for n := range 65536 {
		two := []byte{byte(n >> 8), byte(n)}
		b := after(two, long)
		want, wantErr := Frame{Dst: here, Src: there}, api.OK
		switch {
		case n == 0x8100 || n == 0x88a8: // a tag of number 0, and then a count of 0
			want, wantErr = Frame{}, api.ErrForm
		case n < 3 || 1500 < n && n < 1536:
			want, wantErr = Frame{}, api.ErrForm
		case n <= 1500:
			want.Kind, want.Body, want.Rest = Llc, long[3:n], long[n:]
		default:
			want.Kind, want.Type, want.Body = Two, n, long
		}
		wantGet(t, b, want, wantErr)
		if n <= 1500 && n > 0 {
			wantGet(t, b[:12+2+n-1], Frame{}, api.ErrShort)
		}
	}
}

// P4.1: the edges of what may be counted, each beside what is over it.
func TestGetCount(t *testing.T) {
	llc := func(n int, first ...byte) []byte { return after(counted(n, first...)) }
	rows := []struct {
		name string
		b    []byte
		want api.Errno
	}{
		{"0", llc(0), api.ErrForm},
		{"1", llc(1), api.ErrForm},
		{"2", llc(2, 0xaa, 0xaa), api.ErrForm},
		{"2, and more behind", append(llc(2, 0xaa, 0xaa), 3, 0, 0, 0, 8, 6), api.ErrForm},
		{"SNAP of 3", llc(3, 0xaa, 0xaa, 3), api.ErrForm},
		{"SNAP of 7", llc(7, 0xaa, 0xaa, 3), api.ErrForm},
		{"SNAP of 7, and more behind", append(llc(7, 0xaa, 0xaa, 3), 1, 2, 3), api.ErrForm},
		{"SNAP of 8", llc(8, 0xaa, 0xaa, 3), api.OK},
		{"SNAP of 1500", llc(1500, 0xaa, 0xaa, 3), api.OK},
		{"1500", llc(1500), api.OK},
		{"1501", llc(1501), api.ErrForm},
		{"1535", llc(1535), api.ErrForm},
		{"1501, and nothing behind", after([]byte{0x05, 0xdd}), api.ErrForm},
		{"1535, and nothing behind", after([]byte{0x05, 0xff}), api.ErrForm},
		{"1536, and nothing behind", after([]byte{0x06, 0x00}), api.OK},
		{"1500, and nothing behind", after([]byte{0x05, 0xdc}), api.ErrShort},
		{"2, and one behind: ErrShort is named ahead", after([]byte{0, 2, 0xaa}), api.ErrShort},
		{"1, and nothing behind", after([]byte{0, 1}), api.ErrShort},
		{"SNAP of 7, and six behind", llc(7, 0xaa, 0xaa, 3)[:20], api.ErrShort},
		{"SNAP of 8, and seven behind", llc(8, 0xaa, 0xaa, 3)[:21], api.ErrShort},
	}
	for _, r := range rows {
		f, e := Get(r.b)
		if e != r.want || (e == api.OK) != (f.Kind != 0) {
			t.Errorf("a count of %s: %+v, %d; want %d", r.name, told(f), e, r.want)
		}
		if behind, e := Behind(r.b); e != r.want || e != api.OK && len(behind) != 0 {
			t.Errorf("Behind of a count of %s: % x, %d; want %d", r.name, short(behind), e, r.want)
		}
	}
}

// P4.1: cut off at every place a frame is too short, up to where its body begins or its count ends.
func TestGetShort(t *testing.T) {
	for _, tags := range [][]byte{nil, {0x81, 0, 0, 5}, {0x88, 0xa8, 0, 5}, {0x88, 0xa8, 0, 5, 0x81, 0, 0, 7}} {
		for _, carried := range [][]byte{{8, 0, 1, 2, 3}, {0, 5, 0x42, 0x42, 3, 1, 2, 9, 9}, {0, 9, 0xaa, 0xaa, 3, 0, 0, 0, 8, 6, 1, 9, 9}} {
			b := after(tags, carried)
			least := 12 + len(tags) + 2
			if carried[0] == 0 {
				least += int(carried[1])
			}
			for n := range b {
				want, wantErr := Frame{}, api.ErrShort
				if n >= least {
					want, wantErr = slowGet(b[:n])
				}
				wantGet(t, b[:n], want, wantErr)
			}
		}
	}
	wantGet(t, nil, Frame{}, api.ErrShort)
	wantGet(t, []byte{}, Frame{}, api.ErrShort)
}

// P4.1: MaxFrame bytes may be, one more may not, whatever they are.
func TestGetLong(t *testing.T) {
	long := after([]byte{8, 0}, fill(65536))
	wantGet(t, long[:65534], Frame{Dst: here, Src: there, Kind: Two, Type: 0x800, Body: long[14:65534]}, api.OK)
	wantGet(t, long[:65535], Frame{Dst: here, Src: there, Kind: Two, Type: 0x800, Body: long[14:65535]}, api.OK)
	wantGet(t, long[:65536], Frame{}, api.ErrLong)
	wantGet(t, long, Frame{}, api.ErrLong)
	padded := after([]byte{0, 3, 0x42, 0x42, 3}, fill(65536))
	wantGet(t, padded[:65535], Frame{Dst: here, Src: there, Kind: Llc, Llc: [3]byte{0x42, 0x42, 3}, Rest: padded[17:65535]}, api.OK)
	wantGet(t, padded[:65536], Frame{}, api.ErrLong)
	for _, ahead := range [][]byte{{0, 0}, {5, 0xff}, {0, 3, 0xaa, 0xaa, 3}} {
		wantGet(t, append(after(ahead), make([]byte, 65536)...)[:65536], Frame{}, api.ErrLong)
	}
	wantGet(t, make([]byte, 65536), Frame{}, api.ErrLong)
	wantGet(t, make([]byte, 1<<20), Frame{}, api.ErrLong)
}

// P4.1, P4.3, P4.4: of whatever bytes Get tells what the chapter does; and what it told is put again, as it was.
func TestBackAndThere(t *testing.T) {
	r := rand.New(rand.NewSource(1))
	seen := map[[2]int]int{}
	for range 60000 {
		b := randomBytes(r)
		want, wantErr := slowGet(b)
		wantGet(t, b, want, wantErr)
		seen[[2]int{want.Kind, int(wantErr)}]++
		if wantErr == api.OK {
			wantPut(t, "what was told", want, b, api.OK)
		}
	}
	for _, is := range [][2]int{{Two, 0}, {Llc, 0}, {Snap, 0}, {0, int(api.ErrShort)}, {0, int(api.ErrForm)}} {
		if seen[is] < 500 {
			t.Errorf("too few of %v: %d", is, seen[is])
		}
	}
}

// P4.2: what is laid, of each kind.
func TestPut(t *testing.T) {
	rows := []struct {
		name string
		f    Frame
		want []byte
	}{
		{"Two", Frame{Kind: Two, Type: 0x800, Body: []byte{1, 2}}, after([]byte{8, 0, 1, 2})},
		{"Two without a body", Frame{Kind: Two, Type: 0x800}, after([]byte{8, 0})},
		{"the least type", Frame{Kind: Two, Type: 1536}, after([]byte{6, 0})},
		{"the highest type", Frame{Kind: Two, Type: 65535}, after([]byte{0xff, 0xff})},
		{"empty lists", Frame{Tags: []tag.Tag{}, Kind: Two, Type: 0x800, Body: []byte{}, Rest: []byte{}}, after([]byte{8, 0})},
		{"one tag", Frame{Tags: []tag.Tag{inner}, Kind: Two, Type: 0x806}, after([]byte{0x81, 0, 0x20, 5, 8, 6})},
		{"an outer tag", Frame{Tags: []tag.Tag{outer}, Kind: Two, Type: 0x806}, after([]byte{0x88, 0xa8, 0xff, 0xff, 8, 6})},
		{"two tags", Frame{Tags: []tag.Tag{outer, inner}, Kind: Two, Type: 0x806}, after([]byte{0x88, 0xa8, 0xff, 0xff, 0x81, 0, 0x20, 5, 8, 6})},
		{"Llc", Frame{Kind: Llc, Llc: [3]byte{0x42, 0x42, 3}}, after([]byte{0, 3, 0x42, 0x42, 3})},
		{"Llc of zeros", Frame{Kind: Llc}, after([]byte{0, 3, 0, 0, 0})},
		{"Llc with body and rest", Frame{Kind: Llc, Llc: [3]byte{1, 2, 3}, Body: []byte{4, 5}, Rest: []byte{6}}, after([]byte{0, 5, 1, 2, 3, 4, 5, 6})},
		{"Llc behind two tags", Frame{Tags: []tag.Tag{inner, inner}, Kind: Llc, Body: []byte{4}}, after([]byte{0x81, 0, 0x20, 5, 0x81, 0, 0x20, 5, 0, 4, 0, 0, 0, 4})},
		{"Snap", Frame{Kind: Snap, Llc: snap, Type: 0x806}, after([]byte{0, 8, 0xaa, 0xaa, 3, 0, 0, 0, 8, 6})},
		{"Snap with all", Frame{Tags: []tag.Tag{inner}, Kind: Snap, Llc: snap, Oui: oui, Type: 65535, Body: []byte{1}, Rest: []byte{2, 3}}, after([]byte{0x81, 0, 0x20, 5, 0, 9, 0xaa, 0xaa, 3, 0, 0, 12, 0xff, 0xff, 1, 2, 3})},
		{"Snap of type 0", Frame{Kind: Snap, Llc: snap}, after([]byte{0, 8, 0xaa, 0xaa, 3, 0, 0, 0, 0, 0})},
		{"Snap of a tag's kind", Frame{Kind: Snap, Llc: snap, Type: 0x8100}, after([]byte{0, 8, 0xaa, 0xaa, 3, 0, 0, 0, 0x81, 0})},
		{"Snap of a small type", Frame{Kind: Snap, Llc: snap, Type: 1501}, after([]byte{0, 8, 0xaa, 0xaa, 3, 0, 0, 0, 5, 0xdd})},
	}
	for _, r := range rows {
		r.f.Dst, r.f.Src = here, there
		wantPut(t, r.name, r.f, r.want, api.OK)
	}
}

// P4.2: whatever is wrong alone is ErrArg.
func TestPutWrong(t *testing.T) {
	two := Frame{Kind: Two, Type: 0x800, Body: []byte{1}}
	llc := Frame{Kind: Llc, Llc: [3]byte{0x42, 0x42, 3}, Body: []byte{1}, Rest: []byte{2}}
	snapped := Frame{Kind: Snap, Llc: snap, Oui: oui, Type: 0x800, Body: []byte{1}, Rest: []byte{2}}
	for _, f := range []Frame{two, llc, snapped} {
		if _, e := Put(f); e != api.OK {
			t.Errorf("%+v: %d", f, e)
		}
	}
	rows := []struct {
		name  string
		f     Frame
		wrong func(f *Frame)
	}{
		{"kind 0", two, func(f *Frame) { f.Kind = 0 }},
		{"kind 4", two, func(f *Frame) { f.Kind = 4 }},
		{"kind 4 of Snap", snapped, func(f *Frame) { f.Kind = 4 }},
		{"kind below 0", two, func(f *Frame) { f.Kind = -1 }},
		{"kind far above", two, func(f *Frame) { f.Kind = 1 + 1<<32 }},
		{"the kind of others", two, func(f *Frame) { f.Kind = Llc }},
		{"the kind of others", two, func(f *Frame) { f.Kind = Snap }},
		{"the kind of others", llc, func(f *Frame) { f.Kind = Two }},
		{"the kind of others", llc, func(f *Frame) { f.Kind = Snap }},
		{"the kind of others", snapped, func(f *Frame) { f.Kind = Two }},
		{"the kind of others", snapped, func(f *Frame) { f.Kind = Llc }},
		{"a type that counts", two, func(f *Frame) { f.Type = 1500 }},
		{"a type below the least", two, func(f *Frame) { f.Type = 1535 }},
		{"type 0", two, func(f *Frame) { f.Type = 0 }},
		{"a type below 0", two, func(f *Frame) { f.Type = -1 }},
		{"a type far below", two, func(f *Frame) { f.Type = 0x800 - 1<<16 }},
		{"a type above the highest", two, func(f *Frame) { f.Type = 65536 }},
		{"a type far above", two, func(f *Frame) { f.Type = 0x800 + 1<<16 }},
		{"an LLC", two, func(f *Frame) { f.Llc[0] = 1 }},
		{"an LLC at its end", two, func(f *Frame) { f.Llc[2] = 1 }},
		{"an Oui", two, func(f *Frame) { f.Oui[0] = 1 }},
		{"an Oui at its end", two, func(f *Frame) { f.Oui[2] = 1 }},
		{"a rest", two, func(f *Frame) { f.Rest = []byte{0} }},
		{"a type", llc, func(f *Frame) { f.Type = 1 }},
		{"a type of Two", llc, func(f *Frame) { f.Type = 0x800 }},
		{"a type below 0", llc, func(f *Frame) { f.Type = -1 }},
		{"a type far above", llc, func(f *Frame) { f.Type = 1 << 16 }},
		{"an Oui", llc, func(f *Frame) { f.Oui[0] = 1 }},
		{"an Oui at its end", llc, func(f *Frame) { f.Oui[2] = 1 }},
		{"an LLC of Snap", llc, func(f *Frame) { f.Llc = snap }},
		{"an LLC of Snap, and what it has", llc, func(f *Frame) { f.Llc, f.Body = snap, make([]byte, 5) }},
		{"1501 bytes", llc, func(f *Frame) { f.Body = fill(1498) }},
		{"2^16 bytes", llc, func(f *Frame) { f.Body = fill(1<<16 - 3) }},
		{"an LLC of none", snapped, func(f *Frame) { f.Llc = [3]byte{} }},
		{"an LLC of another", snapped, func(f *Frame) { f.Llc[0] = 0xab }},
		{"an LLC of another", snapped, func(f *Frame) { f.Llc[1] = 0xab }},
		{"an LLC of another", snapped, func(f *Frame) { f.Llc[2] = 2 }},
		{"a type below 0", snapped, func(f *Frame) { f.Type = -1 }},
		{"a type above the highest", snapped, func(f *Frame) { f.Type = 65536 }},
		{"1501 bytes", snapped, func(f *Frame) { f.Body = fill(1493) }},
		{"2^16 bytes", snapped, func(f *Frame) { f.Body = fill(1<<16 - 8) }},
	}
	for _, stack := range [][]tag.Tag{{{}}, {{Kind: 0x9100}}, {{Kind: tag.Inner, Number: 4096}}, {{Kind: tag.Inner, Priority: 8}}, {inner, outer}, {outer, outer}, {inner, {}}, {inner, inner, inner}, {outer, inner, inner}} {
		for _, f := range []Frame{two, llc, snapped} {
			f.Tags = stack
			wantPut(t, "no stack", f, nil, api.ErrArg)
		}
	}
	for _, r := range rows {
		r.wrong(&r.f)
		wantPut(t, r.name, r.f, nil, api.ErrArg)
		r.f.Tags = []tag.Tag{outer, inner}
		wantPut(t, r.name+" behind tags", r.f, nil, api.ErrArg)
	}
	wantPut(t, "no frame", Frame{}, nil, api.ErrArg)
}

// P4.2: it hangs on the tags whether the kind of one may be a type.
func TestPutTypeOfTag(t *testing.T) {
	rows := []struct {
		tags         []tag.Tag
		inner, outer api.Errno
	}{
		{nil, api.ErrArg, api.ErrArg},
		{[]tag.Tag{inner}, api.ErrArg, api.OK},
		{[]tag.Tag{outer}, api.ErrArg, api.OK},
		{[]tag.Tag{inner, inner}, api.OK, api.OK},
		{[]tag.Tag{outer, inner}, api.OK, api.OK},
	}
	for _, r := range rows {
		for typ, wantErr := range map[int]api.Errno{tag.Inner: r.inner, tag.Outer: r.outer} {
			f := Frame{Dst: here, Src: there, Tags: r.tags, Kind: Two, Type: typ, Body: []byte{0, 5, 8, 0}}
			var want []byte
			if wantErr == api.OK {
				want = after(tag.Bytes(r.tags...), []byte{byte(typ >> 8), byte(typ), 0, 5, 8, 0})
				wantGet(t, want, f, api.OK)
			}
			wantPut(t, "the kind of a tag", f, want, wantErr)
		}
	}
}

// P4.2: four bytes above MaxFrame may be, one more may not; ErrArg is named ahead.
func TestPutLong(t *testing.T) {
	long := fill(1 << 17)
	for _, tags := range [][]tag.Tag{nil, {inner}, {outer, inner}} {
		ahead := 12 + 4*len(tags) + 2
		two := Frame{Dst: here, Src: there, Tags: tags, Kind: Two, Type: 0x800}
		llc := Frame{Dst: here, Src: there, Tags: tags, Kind: Llc, Body: fill(1497)}
		snapped := Frame{Dst: here, Src: there, Tags: tags, Kind: Snap, Llc: snap, Body: fill(1492)}
		for over := -5; over <= 1; over++ {
			two.Body = long[:65539-ahead+over]
			llc.Rest = long[:65539-ahead-1500+over]
			snapped.Rest = llc.Rest
			for _, f := range []Frame{two, llc, snapped} {
				want, wantErr := slowPut(f)
				if (wantErr == api.ErrLong) != (over == 1) || wantErr != api.OK && wantErr != api.ErrLong {
					t.Fatalf("%d over: %d", over, wantErr)
				}
				wantPut(t, "a long one", f, want, wantErr)
			}
		}
		two.Body, llc.Rest = long, long
		wantPut(t, "a far too long one", two, nil, api.ErrLong)
		wantPut(t, "a far too long rest", llc, nil, api.ErrLong)
		two.Type, llc.Type = 5, 5
		wantPut(t, "a wrong and long one", two, nil, api.ErrArg)
		wantPut(t, "a wrong and long rest", llc, nil, api.ErrArg)
	}
}

// P4.2, P4.4: of each of these parts with each other, what is laid is what the chapter says, and is read again.
func TestThereAndBackOfAll(t *testing.T) {
	stacks := [][]tag.Tag{nil, {inner}, {outer}, {outer, inner}, {inner, inner}, {inner, outer}, {{}}}
	types := []int{-1, 0, 1, 1500, 1501, 1535, 1536, 0x800, 0x8100, 0x88a8, 65535, 65536, 0x8100 + 65536}
	threes := [][3]byte{{}, {0, 0, 1}, snap, {0xaa, 0xaa, 2}}
	bodies := [][]byte{nil, {1, 2, 3, 4, 5, 6}, fill(1492), fill(1493), fill(1497), fill(1498)}
	laid := 0
	for _, tags := range stacks {
		for kind := -1; kind < 5; kind++ {
			for _, typ := range types {
				for _, llc := range threes {
					for _, oui := range threes {
						for _, body := range bodies {
							for _, rest := range [][]byte{nil, {0}, {8, 0, 1}} {
								f := Frame{here, there, tags, kind, typ, llc, oui, body, rest}
								want, wantErr := slowPut(f)
								wantPut(t, "one of all", f, want, wantErr)
								if wantErr == api.OK {
									laid++
									wantGet(t, want, f, api.OK)
								}
							}
						}
					}
				}
			}
		}
	}
	if laid < 1000 {
		t.Errorf("too few may be: %d", laid)
	}
}

// P4.4: what was put is told again.
func TestThereAndBack(t *testing.T) {
	r := rand.New(rand.NewSource(2))
	for range 10000 {
		f := randomFrame(r)
		want, wantErr := slowPut(f)
		if wantErr != api.OK {
			t.Fatalf("%+v: %d", told(f), wantErr)
		}
		wantPut(t, "a frame", f, want, api.OK)
		wantGet(t, want, f, api.OK)
	}
}

// P4.3: of Two, and of Snap with the Oui 0; of what may not be a frame likewise.
func TestProto(t *testing.T) {
	body := []byte{1, 2}
	rows := []struct {
		name string
		f    Frame
		typ  int
		body []byte
		is   bool
	}{
		{"Two", Frame{Kind: Two, Type: 0x800, Body: body}, 0x800, body, true},
		{"Two without a body", Frame{Kind: Two, Type: 0x800}, 0x800, nil, true},
		{"Two behind tags", Frame{Tags: []tag.Tag{outer, inner}, Kind: Two, Type: 0x8100, Body: body}, 0x8100, body, true},
		{"Snap", Frame{Kind: Snap, Llc: snap, Type: 0x806, Body: body, Rest: []byte{3}}, 0x806, body, true},
		{"Snap without a body", Frame{Kind: Snap, Llc: snap, Type: 5, Rest: []byte{3}}, 5, nil, true},
		{"Snap of type 0", Frame{Kind: Snap, Llc: snap}, 0, nil, true},
		{"Snap with an Oui", Frame{Kind: Snap, Llc: snap, Oui: oui, Type: 0x806, Body: body}, 0, nil, false},
		{"Snap with an Oui", Frame{Kind: Snap, Llc: snap, Oui: [3]byte{1}, Type: 0x806, Body: body}, 0, nil, false},
		{"Snap with an Oui", Frame{Kind: Snap, Llc: snap, Oui: [3]byte{0, 0x80}, Type: 0x806, Body: body}, 0, nil, false},
		{"Llc", Frame{Kind: Llc, Llc: [3]byte{0x42, 0x42, 3}, Body: body, Rest: []byte{3}}, 0, nil, false},
		{"Llc of zeros", Frame{Kind: Llc}, 0, nil, false},
		{"Llc with a type", Frame{Kind: Llc, Type: 0x800, Body: body}, 0, nil, false},
		{"none", Frame{}, 0, nil, false},
		{"no kind", Frame{Kind: 4, Type: 0x800, Body: body}, 0, nil, false},
		{"no kind", Frame{Kind: -1, Type: 0x800, Body: body}, 0, nil, false},
		{"no kind", Frame{Type: 0x800, Body: body}, 0, nil, false},
	}
	for _, r := range rows {
		typ, got, is := r.f.Proto()
		if typ != r.typ || is != r.is {
			t.Errorf("Proto of %s: %x, %v; want %x, %v", r.name, typ, is, r.typ, r.is)
		}
		wantBytes(t, "Proto of "+r.name, got, r.body)
	}
}

// P4.3: whatever is handed in is laid, but tags of which one is none.
func TestWith(t *testing.T) {
	rows := []struct {
		name   string
		tags   []tag.Tag
		behind []byte
		want   []byte
	}{
		{"addresses alone", nil, nil, after()},
		{"empty lists", []tag.Tag{}, []byte{}, after()},
		{"what is no frame", nil, []byte{5}, after([]byte{5})},
		{"tags alone", []tag.Tag{outer, inner}, nil, after([]byte{0x88, 0xa8, 0xff, 0xff, 0x81, 0, 0x20, 5})},
		{"a tag ahead of tags", []tag.Tag{inner}, []byte{0x81, 0, 0, 7, 8, 0}, after([]byte{0x81, 0, 0x20, 5, 0x81, 0, 0, 7, 8, 0})},
		{"tags that are no stack", []tag.Tag{inner, outer, inner}, []byte{9}, after([]byte{0x81, 0, 0x20, 5, 0x88, 0xa8, 0xff, 0xff, 0x81, 0, 0x20, 5, 9})},
		{"one that is no tag", []tag.Tag{inner, {}}, []byte{9}, after([]byte{9})},
		{"long ones", nil, fill(70000), after(fill(70000))},
	}
	for _, r := range rows {
		wantBytes(t, "With "+r.name, With(here, there, r.tags, r.behind), r.want)
	}
	if b := With(api.Mac{}, api.Mac{}, nil, nil); !bytes.Equal(b, make([]byte, 12)) {
		t.Errorf("With nothing: % x", b)
	}
}

// P4.5: with what is behind, and with the tags off and on again, it is the frame.
func TestBehindAndWith(t *testing.T) {
	r := rand.New(rand.NewSource(3))
	for range 5000 {
		f := randomFrame(r)
		b, _ := Put(f)
		behind, e := Behind(b)
		if e != api.OK {
			t.Fatalf("Behind of % x: %d", short(b), e)
		}
		wantBytes(t, "with what is behind", With(f.Dst, f.Src, nil, behind), b)
		stack, rest, e := tag.Read(behind)
		if e != api.OK || !slices.Equal(stack, f.Tags) {
			t.Fatalf("tags of % x: %v, %d", short(behind), stack, e)
		}
		off := With(f.Dst, f.Src, nil, rest)
		wantBytes(t, "tags off", off, slices.Concat(b[:12], b[12+4*len(stack):]))
		wantBytes(t, "tags on again", With(f.Dst, f.Src, stack, off[12:]), b)
	}
}

// R3: what is told is new memory, each part its own.
func TestSharesNothing(t *testing.T) {
	b := append(after([]byte{0x81, 0, 0, 5, 0, 5, 0x42, 0x42, 3, 9, 8, 7}), 66, 66)
	before := slices.Clone(b)
	f, _ := Get(b[:len(b)-2])
	behind, _ := Behind(b[:len(b)-2])
	f.Body[0], f.Rest[0], behind[0], behind[len(behind)-1] = 99, 99, 99, 99
	_, _, _ = append(f.Body, 77), append(f.Rest, 77), append(behind, 77)
	wantBytes(t, "what was read", b, before)
	if wantBytes(t, "the rest beside the body", f.Rest, []byte{99}); f.Body[1] != 8 {
		t.Errorf("the body beside the rest: % x", f.Body)
	}

	f, _ = Get(b)
	behind, _ = Behind(b)
	for i := range b {
		b[i] = 55
	}
	if !slices.Equal(f.Tags, []tag.Tag{tag.Plain(5)}) || f.Dst != here {
		t.Errorf("told, behind a change: %+v", f)
	}
	wantBytes(t, "a body behind a change", f.Body, []byte{9, 8})
	wantBytes(t, "a rest behind a change", f.Rest, []byte{7, 66, 66})
	wantBytes(t, "what is behind, behind a change", behind, before[12:])

	room := []tag.Tag{inner, inner, inner}
	roomy := []byte{1, 2, 3, 4}
	f = Frame{Tags: room[:1], Kind: Llc, Body: roomy[:2], Rest: roomy[2:3]}
	laid, _ := Put(f)
	with := With(here, there, room[:1], roomy[:2])
	f.Kind, f.Type, f.Rest = Two, 0x800, nil
	_, e := Put(f)
	_, body, _ := f.Proto()
	for _, l := range [][]byte{laid, with, body} {
		l[len(l)-1] = 99
		_ = append(l, 77)
	}
	wantBytes(t, "what was laid", roomy, []byte{1, 2, 3, 4})
	if !slices.Equal(room, []tag.Tag{inner, inner, inner}) || e != api.OK {
		t.Errorf("tags behind calls: %v, %d", room, e)
	}
	_, body, _ = f.Proto()
	roomy[0] = 55
	wantBytes(t, "a protocol's body behind a change", body, []byte{1, 2})
}

// The rows of the chapter's section 'Examples'.
func TestExamples(t *testing.T) {
	f, e := Get(after([]byte{0x81, 0x00, 0x00, 0x05, 0x08, 0x00, 0xff}))
	if e != api.OK || len(f.Tags) != 1 || f.Tags[0].Number != 5 || f.Kind != Two || f.Type != 0x800 || string(f.Body) != "\xff" {
		t.Errorf("%+v, %d", f, e)
	}
	f, e = Get(after([]byte{0x00, 0x08, 0xaa, 0xaa, 0x03, 0x00, 0x00, 0x00, 0x08, 0x06, 0xee}))
	if e != api.OK || f.Kind != Snap || f.Type != 0x806 || len(f.Body) != 0 || string(f.Rest) != "\xee" {
		t.Errorf("%+v, %d", f, e)
	}
	f, e = Get(after([]byte{0x00, 0x03, 0x42, 0x42, 0x03}))
	if e != api.OK || f.Kind != Llc {
		t.Errorf("%+v, %d", f, e)
	}
}
