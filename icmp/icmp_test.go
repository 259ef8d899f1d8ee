package icmp

import (
	"bytes"
	"math/rand"
	"slices"
	"testing"

	"toll/api"
	"toll/inet"
)

// same holds messages against each other; nil and empty bodies are one (R4).
func same(m, n Msg) bool {
	return m.Type == n.Type && m.Code == n.Code && m.Rest == n.Rest && bytes.Equal(m.Body, n.Body)
}

// sameHead likewise holds heads.
func sameHead(g, h inet.Head) bool {
	return g.Tos == h.Tos && g.Ttl == h.Ttl && g.Proto == h.Proto && g.Id == h.Id &&
		g.Evil == h.Evil && g.Df == h.Df && g.More == h.More && g.Offset == h.Offset &&
		g.Src == h.Src && g.Dst == h.Dst && bytes.Equal(g.Options, h.Options)
}

// short keeps what a test tells of long bytes legible.
func short(b []byte) []byte { return b[:min(len(b), 70)] }

func wantBytes(t *testing.T, name string, got, want []byte) {
	t.Helper()
	if !bytes.Equal(got, want) {
		t.Errorf("%s: %d bytes % x, want %d: % x", name, len(got), short(got), len(want), short(want))
	}
}

// wantGet asks for want, or, by R2, for nothing beside an error; by R3 b stays.
func wantGet(t *testing.T, b []byte, want Msg, wantErr api.Errno) {
	t.Helper()
	before := slices.Clone(b)
	m, e := Get(b)
	if e != wantErr || !same(m, want) {
		t.Errorf("Get of %d bytes % x: type %d, code %d, % x, %d; want type %d, code %d, % x, %d",
			len(b), short(b), m.Type, m.Code, m.Rest, e, want.Type, want.Code, want.Rest, wantErr)
		wantBytes(t, "Get's body", m.Body, want.Body)
	}
	wantBytes(t, "what was handed in", b, before)
}

// wantPut asks for want, or, by R2, for nothing beside an error; by R3 the body stays.
func wantPut(t *testing.T, m Msg, want []byte, wantErr api.Errno) {
	t.Helper()
	before := slices.Clone(m.Body)
	b, e := Put(m)
	if e != wantErr {
		t.Errorf("Put of type %d and %d bytes: %d, want %d", m.Type, len(m.Body), e, wantErr)
	}
	wantBytes(t, "Put", b, want)
	wantBytes(t, "the body that was handed in", m.Body, before)
}

// wantQuote asks for want, or, by R2, for nothing beside an error; by R3 the body stays.
func wantQuote(t *testing.T, m Msg, want inet.Head, wantBody []byte, wantErr api.Errno) {
	t.Helper()
	before := slices.Clone(m.Body)
	h, body, e := m.Quote()
	if e != wantErr || !sameHead(h, want) {
		t.Errorf("Quote of type %d and %d bytes % x: %+v, %d; want %+v, %d", m.Type, len(m.Body), short(m.Body), h, e, want, wantErr)
	}
	wantBytes(t, "Quote's body", body, wantBody)
	wantBytes(t, "the body that was handed in", m.Body, before)
}

// slowSum carries at once, byte by byte.
func slowSum(b []byte) uint16 {
	sum := 0
	for i, v := range b {
		if i%2 == 0 {
			sum += 256 * int(v)
		} else {
			sum += int(v)
		}
		for sum > 65535 {
			sum = sum/65536 + sum%65536
		}
	}
	return uint16(65535 - sum)
}

// sealed is b with the sum at that place that makes all of it right.
func sealed(b []byte, at int) []byte {
	b = slices.Clone(b)
	b[at], b[at+1] = 0, 0
	s := slowSum(b)
	b[at], b[at+1] = byte(s>>8), byte(s)
	return b
}

// slowPut lays a message by places.
func slowPut(m Msg) []byte {
	b := make([]byte, 8+len(m.Body))
	b[0], b[1] = m.Type, m.Code
	for i, v := range m.Rest {
		b[4+i] = v
	}
	for i, v := range m.Body {
		b[8+i] = v
	}
	return sealed(b, 2)
}

// slowKind goes by the chapter's lists.
func slowKind(typ byte) int {
	switch {
	case slices.Contains([]byte{3, 4, 5, 11, 12}, typ):
		return Error
	case slices.Contains([]byte{8, 13, 15, 17}, typ):
		return Ask
	case slices.Contains([]byte{0, 14, 16, 18}, typ):
		return Answer
	}
	return Other
}

// with is b with what is put from that place on.
func with(b []byte, at int, put ...byte) []byte {
	b = slices.Clone(b)
	copy(b[at:], put)
	return b
}

// fill is n bytes, each its place's.
func fill(n int) []byte {
	b := make([]byte, n)
	for i := range b {
		b[i] = byte(i + 1)
	}
	return b
}

func randomFill(r *rand.Rand, most int) []byte {
	b := make([]byte, r.Intn(most+1))
	r.Read(b)
	return b
}

func randomMsg(r *rand.Rand, most int) Msg {
	m := Msg{Type: byte(r.Intn(256)), Code: byte(r.Intn(256)), Body: randomFill(r, most)}
	if r.Intn(2) == 0 {
		m.Type = byte(r.Intn(20))
	}
	r.Read(m.Rest[:])
	return m
}

// quoted are a head's 4 * words bytes, the options o among them, that say all bytes in all, and the bytes behind it.
func quoted(words, all int, behind []byte, o ...byte) []byte {
	b := make([]byte, 4*words)
	copy(b, []byte{byte(0x40 + words), 0x21, byte(all >> 8), byte(all), 0x43, 0x65, 0, 0, 7, 17, 0, 0, 10, 1, 2, 3, 10, 4, 5, 6})
	copy(b[20:], o)
	return slices.Concat(sealed(b, 10), behind)
}

// head is what quoted lays.
func head(o ...byte) inet.Head {
	return inet.Head{Tos: 0x21, Id: 0x4365, Ttl: 7, Proto: 17, Src: 0x0a010203, Dst: 0x0a040506, Options: o}
}

// knownRows are messages, and their bytes, with sums worked out by hand.
func knownRows() []struct {
	name string
	m    Msg
	b    []byte
} {
	return []struct {
		name string
		m    Msg
		b    []byte
	}{
		{"an ask of nothing", Msg{Type: 8}, []byte{8, 0, 0xf7, 0xff, 0, 0, 0, 0}},
		{"all nought", Msg{}, []byte{0, 0, 0xff, 0xff, 0, 0, 0, 0}},
		{"a type", Msg{Type: 0x81}, []byte{0x81, 0, 0x7e, 0xff, 0, 0, 0, 0}},
		{"a code", Msg{Code: 0x81}, []byte{0, 0x81, 0xff, 0x7e, 0, 0, 0, 0}},
		{"a rest", Msg{Rest: [4]byte{1, 2, 3, 4}}, []byte{0, 0, 0xfb, 0xf9, 1, 2, 3, 4}},
		{"the rest's first byte", Msg{Rest: [4]byte{0x81}}, []byte{0, 0, 0x7e, 0xff, 0x81, 0, 0, 0}},
		{"the rest's last byte", Msg{Rest: [4]byte{3: 0x81}}, []byte{0, 0, 0xff, 0x7e, 0, 0, 0, 0x81}},
		{"a body", Msg{Body: []byte{1, 2, 3, 4}}, []byte{0, 0, 0xfb, 0xf9, 0, 0, 0, 0, 1, 2, 3, 4}},
		{"a body of one byte, which is a high one", Msg{Body: []byte{0x81}}, []byte{0, 0, 0x7e, 0xff, 0, 0, 0, 0, 0x81}},
		{"a body of three bytes", Msg{Body: []byte{1, 2, 3}}, []byte{0, 0, 0xfb, 0xfd, 0, 0, 0, 0, 1, 2, 3}},
		{"a body of noughts", Msg{Type: 8, Body: make([]byte, 3)}, []byte{8, 0, 0xf7, 0xff, 0, 0, 0, 0, 0, 0, 0}},
		{"a carry", Msg{Type: 0xff, Code: 0xff, Rest: [4]byte{0, 1}}, []byte{0xff, 0xff, 0xff, 0xfe, 0, 1, 0, 0}},
		{"a sum of 0", Msg{Type: 8, Rest: [4]byte{0xf7, 0xff}}, []byte{8, 0, 0, 0, 0xf7, 0xff, 0, 0}},
		{"all bits", Msg{255, 255, [4]byte{255, 255, 255, 255}, []byte{255, 255}}, []byte{255, 255, 0, 0, 255, 255, 255, 255, 255, 255}},
		{"an ask", Msg{8, 0, [4]byte{0x12, 0x34, 0, 1}, []byte("abcd")}, []byte{8, 0, 0x21, 4, 0x12, 0x34, 0, 1, 'a', 'b', 'c', 'd'}},
	}
}

// P8.1: each part is read from its own place, and laid there.
func TestGetAndPut(t *testing.T) {
	for _, r := range knownRows() {
		t.Run(r.name, func(t *testing.T) {
			wantGet(t, r.b, r.m, api.OK)
			wantPut(t, r.m, r.b, api.OK)
		})
	}
}

// P8.1: a sum of 65535 in place of 0 is right, too.
func TestSumOfOnes(t *testing.T) {
	wantGet(t, []byte{8, 0, 0xff, 0xff, 0xf7, 0xff, 0, 0}, Msg{Type: 8, Rest: [4]byte{0xf7, 0xff}}, api.OK)
	wantGet(t, []byte{0, 0, 0, 0, 0, 0, 0, 0}, Msg{}, api.ErrSum)
	wantGet(t, []byte{0, 0, 0, 0, 0xff, 0xff, 0, 0}, Msg{Rest: [4]byte{0xff, 0xff}}, api.OK)
}

// P8.1: fewer than 8 bytes are short, whatever their sum is; none of them may be read behind the end.
func TestGetShort(t *testing.T) {
	whole := []byte{8, 0, 0xf7, 0xff, 0, 0, 0, 0}
	for n := range 8 {
		wantGet(t, whole[:n], Msg{}, api.ErrShort)
		wantGet(t, slices.Clone(whole[:n]), Msg{}, api.ErrShort)
		wantGet(t, fill(n), Msg{}, api.ErrShort)
		wantGet(t, bytes.Repeat([]byte{0xff}, n), Msg{}, api.ErrShort)
	}
	wantGet(t, nil, Msg{}, api.ErrShort)
	wantGet(t, whole, Msg{Type: 8}, api.OK)
	wantGet(t, whole[:8:8], Msg{Type: 8}, api.OK)
}

// P8.1: with one byte changed the sum is not right any more, wherever that byte stands.
func TestGetChanged(t *testing.T) {
	for _, r := range knownRows() {
		for at := range r.b {
			for v := range 256 {
				if b := with(r.b, at, byte(v)); b[at] != r.b[at] {
					wantGet(t, b, Msg{}, api.ErrSum)
				}
			}
		}
		wantGet(t, slices.Concat(r.b, []byte{0}), Msg{r.m.Type, r.m.Code, r.m.Rest, slices.Concat(r.m.Body, []byte{0})}, api.OK)
	}
	wantGet(t, []byte{8, 0, 0xff, 0xf7, 0, 0, 0, 0}, Msg{}, api.ErrSum)       // its bytes the other way round
	wantGet(t, []byte{8, 0, 8, 0, 0, 0, 0, 0}, Msg{}, api.ErrSum)             // its bits not turned
	wantGet(t, []byte{8, 0, 0xf7, 0xff, 0, 0, 0, 0, 1}, Msg{}, api.ErrSum)    // the sum of the head alone
	wantGet(t, []byte{8, 0, 0xf7, 0xff, 0, 0, 0, 0, 0, 1}, Msg{}, api.ErrSum) // likewise
}

// P8.1: random bytes, most of them not right, and then made right.
func TestGetOfMany(t *testing.T) {
	r := rand.New(rand.NewSource(1))
	for range 20000 {
		b := randomFill(r, 40)
		m, e := Get(b)
		switch {
		case len(b) < 8:
			wantGet(t, b, Msg{}, api.ErrShort)
			continue
		case slowSum(b) != 0:
			wantGet(t, b, Msg{}, api.ErrSum)
		case e != api.OK:
			t.Errorf("Get of % x: %+v, %d", b, m, e)
		}
		wantGet(t, sealed(b, 2), Msg{b[0], b[1], [4]byte(b[4:8]), b[8:]}, api.OK)
		at := 2 * r.Intn(len(b)/2) // a sum that another word makes right is right
		wantGet(t, sealed(b, at), Msg{sealed(b, at)[0], sealed(b, at)[1], [4]byte(sealed(b, at)[4:8]), sealed(b, at)[8:]}, api.OK)
	}
}

// P8.1: as many bytes as may be are laid, no more; Get has no such bound.
func TestMostBytes(t *testing.T) {
	long := bytes.Repeat([]byte{0xfe, 0xff, 0x81}, 30000)
	for _, all := range []int{65513, 65514, 65515} {
		m := Msg{Type: 8, Code: 3, Rest: [4]byte{1, 2, 3, 4}, Body: long[:all-8]}
		b, e := Put(m)
		if e != api.OK || len(b) != all {
			t.Fatalf("Put of %d bytes in all: %d bytes, %d", all, len(b), e)
		}
		wantPut(t, m, slowPut(m), api.OK)
		wantGet(t, b, m, api.OK)
	}
	for _, all := range []int{65516, 65517, 65523, 65524, 65535, 65536, 65537, 65544, 80000} {
		m := Msg{Type: 8, Code: 3, Rest: [4]byte{1, 2, 3, 4}, Body: long[:all-8]}
		wantPut(t, m, nil, api.ErrLong)
		wantPut(t, Msg{Body: make([]byte, all-8)}, nil, api.ErrLong)
		wantGet(t, slowPut(m), m, api.OK)
	}
}

// P8.4: messages, there and back.
func TestThereAndBack(t *testing.T) {
	r := rand.New(rand.NewSource(2))
	for i := range 10000 {
		m := randomMsg(r, 60)
		if i%4 == 0 { // so that the sum comes to 0
			m.Rest[0], m.Rest[1] = 0, 0
			s := slowSum(with(slowPut(m), 2, 0, 0))
			m.Rest[0], m.Rest[1] = byte(s>>8), byte(s)
		}
		b, e := Put(m)
		if e != api.OK {
			t.Fatalf("Put of %+v: %d", m, e)
		}
		if i%4 == 0 && (b[2] != 0 || b[3] != 0) {
			t.Errorf("Put of %+v: % x", m, b)
		}
		wantPut(t, m, slowPut(m), api.OK)
		wantGet(t, b, m, api.OK)
	}
}

// P8.4: bytes, read and laid again, but that a sum of 65535 may be one of 0.
func TestBackAndThere(t *testing.T) {
	r := rand.New(rand.NewSource(3))
	for i := range 10000 {
		b := make([]byte, 8+r.Intn(60))
		r.Read(b)
		if i%2 == 0 {
			b = with(b, 2, 0xff, 0xff)
			b = sealed(b, 6)
		} else {
			b = sealed(b, 2)
		}
		m, e := Get(b)
		if e != api.OK {
			t.Fatalf("Get of % x: %d", b, e)
		}
		want := b
		if b[2] == 0xff && b[3] == 0xff {
			want = with(b, 2, 0, 0)
		}
		wantPut(t, m, want, api.OK)
	}
	wantPut(t, Msg{}, []byte{0, 0, 0xff, 0xff, 0, 0, 0, 0}, api.OK) // of noughts alone 65535 stays
}

// P8.2: the kinds' numbers, and of which kind each type is, whatever else stands there.
func TestKind(t *testing.T) {
	if Other != 0 || Error != 1 || Ask != 2 || Answer != 3 {
		t.Error(Other, Error, Ask, Answer)
	}
	r := rand.New(rand.NewSource(4))
	count := map[int]int{}
	for typ := range 256 {
		count[Msg{Type: byte(typ)}.Kind()]++
		for range 10 {
			m := randomMsg(r, 30)
			m.Type = byte(typ)
			if k, want := m.Kind(), slowKind(m.Type); k != want {
				t.Errorf("Kind of type %d: %d, want %d", typ, k, want)
			}
		}
	}
	if count[Error] != 5 || count[Ask] != 4 || count[Answer] != 4 || count[Other] != 243 {
		t.Error(count)
	}
}

// P8.2: an ask's and an answer's Id and Seq, each from its own two bytes, the first one the highest; others have none.
func TestIdAndSeq(t *testing.T) {
	rows := []struct {
		rest    [4]byte
		id, seq uint16
	}{
		{[4]byte{}, 0, 0},
		{[4]byte{0x12, 0x34, 0x56, 0x78}, 0x1234, 0x5678},
		{[4]byte{1, 0, 0, 0}, 0x100, 0}, {[4]byte{0, 1, 0, 0}, 1, 0}, {[4]byte{0, 0, 1, 0}, 0, 0x100}, {[4]byte{0, 0, 0, 1}, 0, 1},
		{[4]byte{0x80, 0, 0, 0x80}, 0x8000, 0x80},
		{[4]byte{255, 255, 255, 255}, 0xffff, 0xffff},
	}
	for typ := range 256 {
		for _, r := range rows {
			m := Msg{Type: byte(typ), Code: 9, Rest: r.rest, Body: fill(9)}
			id, seq := r.id, r.seq
			if k := slowKind(m.Type); k != Ask && k != Answer {
				id, seq = 0, 0
			}
			if m.Id() != id || m.Seq() != seq {
				t.Errorf("of type %d and % x: Id %04x, Seq %04x; want %04x, %04x", typ, r.rest, m.Id(), m.Seq(), id, seq)
			}
		}
	}
}

// P8.2, P8.5: of an ask its answer's type, and the other way round; nothing of others; Back of Back is the type.
func TestBack(t *testing.T) {
	answers := map[byte]byte{8: 0, 13: 14, 15: 16, 17: 18}
	for typ := range 256 {
		m := Msg{Type: byte(typ), Code: 1, Rest: [4]byte{1, 2, 3, 4}, Body: fill(3)}
		var want byte
		is := false
		for ask, answer := range answers {
			switch m.Type {
			case ask:
				want, is = answer, true
			case answer:
				want, is = ask, true
			}
		}
		u, got := m.Back()
		if u != want || got != is {
			t.Errorf("Back of type %d: %d, %v; want %d, %v", typ, u, got, want, is)
		}
		if !is {
			continue
		}
		if again, got := (Msg{Type: u}).Back(); again != m.Type || !got {
			t.Errorf("Back of Back of type %d: %d, %v", typ, again, got)
		}
		if k := (Msg{Type: u}).Kind(); k+m.Kind() != Ask+Answer || k == m.Kind() {
			t.Errorf("types %d, %d: of kinds %d, %d", typ, u, m.Kind(), k)
		}
	}
}

// P8.3: what is no error quotes nothing, whatever its body is.
func TestQuoteOfNoError(t *testing.T) {
	for typ := range 256 {
		m := Msg{Type: byte(typ), Body: quoted(5, 28, fill(8))}
		if slowKind(m.Type) == Error {
			wantQuote(t, m, head(), fill(8), api.OK)
			continue
		}
		wantQuote(t, m, inet.Head{}, nil, api.ErrArg)
		for _, body := range [][]byte{nil, fill(8), fill(20), quoted(5, 28, fill(7)), with(quoted(5, 28, fill(8)), 1, 0)} {
			wantQuote(t, Msg{Type: m.Type, Body: body}, inet.Head{}, nil, api.ErrArg)
		}
	}
}

// P8.3: inet.Cut's errors, each ahead of too few bytes behind the head.
func TestQuoteWrongHeads(t *testing.T) {
	rows := []struct {
		name string
		body []byte
		want api.Errno
	}{
		{"none", nil, api.ErrShort},
		{"19 bytes", quoted(5, 28, nil)[:19], api.ErrShort},
		{"another version, and short", with(quoted(5, 28, nil)[:19], 0, 0x65), api.ErrShort},
		{"another version", with(quoted(5, 28, fill(8)), 0, 0x65), api.ErrForm},
		{"another version, and nothing behind", with(quoted(5, 28, nil), 0, 0x65), api.ErrForm},
		{"four words", with(quoted(5, 28, fill(8)), 0, 0x44), api.ErrForm},
		{"a head that is not all there", quoted(6, 32, nil, 1, 1, 1, 1)[:23], api.ErrShort},
		{"fewer bytes in all than the head's", quoted(5, 19, fill(8)), api.ErrForm},
		{"fewer bytes in all than the head's, and nothing behind", quoted(5, 19, nil), api.ErrForm},
		{"fewer bytes in all than the head's, of options", quoted(6, 23, fill(8), 1, 1, 1, 1), api.ErrForm},
		{"a wrong sum", with(quoted(5, 28, fill(8)), 8, 8), api.ErrSum},
		{"a wrong sum, and nothing behind", with(quoted(5, 28, nil), 8, 8), api.ErrSum},
		{"wrong options", quoted(6, 32, fill(8), 7, 5, 0, 0), api.ErrForm},
		{"wrong options, and nothing behind", quoted(6, 32, nil, 7, 5, 0, 0), api.ErrForm},
	}
	for _, r := range rows {
		t.Run(r.name, func(t *testing.T) {
			for _, typ := range []byte{3, 4, 5, 11, 12} {
				if _, _, e := inet.Cut(r.body); e != r.want {
					t.Errorf("the row is wrong: Cut tells %d", e)
				}
				wantQuote(t, Msg{Type: typ, Body: r.body}, inet.Head{}, nil, r.want)
			}
		})
	}
}

// P8.3: 8 bytes behind the head, or all that its length says, if that is less; as far as that length.
func TestQuoteBehind(t *testing.T) {
	for _, o := range [][]byte{nil, {1, 1, 1, 0}, slices.Concat([]byte{7, 39}, fill(37), []byte{0})} {
		size := 20 + len(o)
		for said := range 40 {
			for there := range 44 {
				m := Msg{Type: 3, Code: 1, Body: quoted(size/4, size+said, fill(there), o...)}
				if there < 8 && there < said {
					wantQuote(t, m, inet.Head{}, nil, api.ErrShort)
					continue
				}
				wantQuote(t, m, head(o...), fill(min(said, there)), api.OK)
			}
		}
		for _, there := range []int{0, 1, 7} {
			wantQuote(t, Msg{Type: 11, Body: quoted(size/4, 65535, fill(there), o...)}, inet.Head{}, nil, api.ErrShort)
			wantQuote(t, Msg{Type: 11, Body: quoted(size/4, size+256, fill(there), o...)}, inet.Head{}, nil, api.ErrShort)
		}
		for _, there := range []int{8, 9, 1000} {
			wantQuote(t, Msg{Type: 11, Body: quoted(size/4, 65535, fill(there), o...)}, head(o...), fill(there), api.OK)
		}
	}
}

// P8.3: a quoted fragment is asked for no more than another one, whatever may not be of its body.
func TestQuoteOfFragments(t *testing.T) {
	rows := []struct {
		name        string
		h           inet.Head
		said, there int
		want        api.Errno
	}{
		{"a first one", inet.Head{More: true}, 16, 8, api.OK},
		{"a first one, of a length that may not be", inet.Head{More: true}, 15, 15, api.OK},
		{"a first one, of 7 bytes in all", inet.Head{More: true}, 7, 7, api.OK},
		{"a first one, of 9 bytes, 7 there", inet.Head{More: true}, 9, 7, api.ErrShort},
		{"a later one", inet.Head{Offset: 5}, 30, 12, api.OK},
		{"a later one, of 3 bytes, 2 there", inet.Head{Offset: 5}, 3, 2, api.ErrShort},
		{"one that goes too far", inet.Head{Offset: 8191}, 40, 40, api.OK},
		{"one that goes too far, 7 bytes there", inet.Head{Offset: 8191}, 40, 7, api.ErrShort},
		{"one that goes too far, 7 of its 8 bytes there", inet.Head{Offset: 8191, More: true}, 8, 7, api.ErrShort},
		{"one that may be none", inet.Head{Evil: true, Df: true, More: true, Offset: 1}, 9, 9, api.OK},
	}
	for _, r := range rows {
		t.Run(r.name, func(t *testing.T) {
			b := quoted(5, 20+r.said, fill(r.there))
			bits := r.h.Offset
			for i, on := range []bool{r.h.More, r.h.Df, r.h.Evil} {
				if on {
					bits += 0x2000 << i
				}
			}
			b = slices.Concat(sealed(with(b[:20], 6, byte(bits>>8), byte(bits)), 10), b[20:])
			want, behind := head(), fill(min(r.said, r.there))
			want.Evil, want.Df, want.More, want.Offset = r.h.Evil, r.h.Df, r.h.More, r.h.Offset
			if r.want != api.OK {
				want, behind = inet.Head{}, nil
			}
			wantQuote(t, Msg{Type: 12, Body: b}, want, behind, r.want)
		})
	}
}

// P8.3: a quote of random bytes that are near to what may be is as inet.Cut tells, and as long as the length says.
func TestQuoteOfMany(t *testing.T) {
	r := rand.New(rand.NewSource(5))
	told := map[api.Errno]int{}
	for range 20000 {
		words := 4 + r.Intn(4)
		b := quoted(max(words, 5), 16+r.Intn(30), randomFill(r, 20), 1, 1, byte(r.Intn(3)), byte(r.Intn(3)))
		if r.Intn(8) == 0 {
			b[0] = byte(0x40 + words)
		}
		if r.Intn(8) == 0 {
			b = b[:r.Intn(len(b)+1)]
		}
		if r.Intn(2) == 0 && len(b) >= 20 {
			b[6], b[7] = byte(r.Intn(256)), byte(r.Intn(256))
			n := min(4*int(b[0]&15), len(b))
			b = slices.Concat(sealed(b[:max(n, 20)], 10), b[max(n, 20):])
		}
		if r.Intn(8) == 0 && len(b) >= 20 {
			b[10+r.Intn(10)] ^= byte(1 + r.Intn(255))
		}
		h, body, e := inet.Cut(b)
		if e == api.OK {
			behind := len(b) - 20 - len(h.Options)
			said := 256*int(b[2]) + int(b[3]) - 20 - len(h.Options)
			if behind < min(8, said) {
				h, body, e = inet.Head{}, nil, api.ErrShort
			}
		}
		told[e]++
		wantQuote(t, Msg{Type: 5, Rest: [4]byte{9, 9, 9, 9}, Body: b}, h, body, e)
	}
	for _, e := range []api.Errno{api.OK, api.ErrShort, api.ErrForm, api.ErrSum} {
		if told[e] < 500 {
			t.Errorf("too few of them came: %v", told)
		}
	}
}

// P8.6: the beginning of a datagram, as far as 8 bytes behind its head, or more, or all, is quoted.
func TestQuoteOfDatagrams(t *testing.T) {
	r := rand.New(rand.NewSource(6))
	for range 400 {
		want := inet.Head{
			Tos: byte(r.Intn(256)), Ttl: byte(r.Intn(256)), Proto: byte(r.Intn(256)), Id: uint16(r.Intn(65536)),
			Evil: r.Intn(2) == 0, Df: r.Intn(2) == 0, More: r.Intn(2) == 0,
			Src: api.IP(r.Uint32()), Dst: api.IP(r.Uint32()), Options: bytes.Repeat([]byte{1}, 4*r.Intn(11)),
		}
		behind := randomFill(r, 30)
		if r.Intn(2) == 0 {
			want.Offset = r.Intn(8180)
		}
		if want.More {
			behind = behind[:len(behind)/8*8]
		}
		d, e := inet.Put(want, behind)
		if e != api.OK {
			t.Fatalf("Put of %+v: %d", want, e)
		}
		size := len(d) - len(behind)
		for n := range len(d) + 1 {
			m := Msg{Type: []byte{3, 4, 5, 11, 12}[n%5], Body: d[:n]}
			if n < len(d) && n < size+8 {
				wantQuote(t, m, inet.Head{}, nil, api.ErrShort)
				continue
			}
			wantQuote(t, m, want, behind[:n-size], api.OK)
		}
		wantQuote(t, Msg{Type: 3, Body: slices.Concat(d, fill(9))}, want, behind, api.OK)
	}
}

// P8.6: of the longest datagram, too; and what is quoted goes through Put and Get.
func TestQuoteOfLongDatagram(t *testing.T) {
	d, e := inet.Put(inet.Head{Proto: 6, Src: 1, Dst: 2}, bytes.Repeat([]byte{5}, 65515))
	if e != api.OK {
		t.Fatal(e)
	}
	wantQuote(t, Msg{Type: 3, Body: d}, inet.Head{Proto: 6, Src: 1, Dst: 2}, d[20:], api.OK)
	wantQuote(t, Msg{Type: 3, Body: d[:65534]}, inet.Head{Proto: 6, Src: 1, Dst: 2}, d[20:65534], api.OK)
	b, e := Put(Msg{Type: 3, Code: 3, Body: d[:28]})
	if e != api.OK {
		t.Fatal(e)
	}
	m, e := Get(b)
	if e != api.OK {
		t.Fatal(e)
	}
	wantQuote(t, m, inet.Head{Proto: 6, Src: 1, Dst: 2}, d[20:28], api.OK)
}

// R3: what is told is new memory.
func TestSharesNothing(t *testing.T) {
	m := Msg{Type: 8, Body: append(make([]byte, 0, 50), fill(4)...)}
	b, _ := Put(m)
	want := slices.Clone(b)
	m.Body[0] = 99
	wantBytes(t, "what is laid, behind a change", b, want)
	g, _ := Get(b)
	g.Body[1] = 77
	_ = append(g.Body, 66)
	wantBytes(t, "what was read, behind a change", b, want)
	g, _ = Get(b)
	clear(b)
	wantBytes(t, "a body, behind a change", g.Body, fill(4))
	clear(want)
	b, _ = Put(g)
	clear(b)
	wantBytes(t, "the body that was handed in", g.Body, fill(4))
}

// R3: likewise of what is quoted; its two lists share nothing either.
func TestQuoteSharesNothing(t *testing.T) {
	for _, there := range []int{4, 12} {
		body := quoted(6, 24+there, fill(there), 1, 1, 1, 0)
		before := slices.Clone(body)
		h, behind, e := Msg{Type: 3, Body: body}.Quote()
		if e != api.OK {
			t.Fatal(e)
		}
		h.Options[0], behind[0] = 55, 66
		_, _ = append(h.Options, 77), append(behind, 88)
		wantBytes(t, "what was quoted, behind a change", body, before)
		wantBytes(t, "what is quoted, behind a change of the options", behind[1:], fill(there)[1:])
		h, behind, _ = Msg{Type: 3, Body: body}.Quote()
		clear(body)
		wantBytes(t, "options, behind a change", h.Options, []byte{1, 1, 1, 0})
		wantBytes(t, "what is quoted, behind a change", behind, fill(there))
	}
}

// The rows of the chapter's section 'Examples'.
func TestExamples(t *testing.T) {
	wantPut(t, Msg{Type: 8}, []byte{0x08, 0x00, 0xf7, 0xff, 0, 0, 0, 0}, api.OK)
	if u, is := (Msg{Type: 13}).Back(); u != 14 || !is {
		t.Error(u, is)
	}
}
