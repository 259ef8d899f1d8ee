package tag

import (
	"bytes"
	"math/rand"
	"slices"
	"testing"

	"toll/api"
)

func wantBytes(t *testing.T, name string, got, want []byte) {
	t.Helper()
	if !bytes.Equal(got, want) {
		t.Errorf("%s: % x, want % x", name, got, want)
	}
}

func wantRead(t *testing.T, b []byte, stack []Tag, rest []byte) {
	t.Helper()
	l, r, e := Read(b)
	if e != api.OK || !slices.Equal(l, stack) || !bytes.Equal(r, rest) {
		t.Errorf("Read of % x: %v, % x, %d; want %v, % x", b, l, r, e, stack, rest)
	}
}

// wantShort asks for the error, and, by R2, for nothing beside it.
func wantShort(t *testing.T, b []byte) {
	t.Helper()
	if l, r, e := Read(b); e != api.ErrShort || len(l) != 0 || len(r) != 0 {
		t.Errorf("Read of % x: %v, % x, %d; want nothing and ErrShort", b, l, r, e)
	}
}

// wantPush asks for want, or, by R2, for nothing beside an error.
func wantPush(t *testing.T, l []Tag, x Tag, want []Tag, wantErr api.Errno) {
	t.Helper()
	before := slices.Clone(l)
	got, e := Push(l, x)
	if e != wantErr || !slices.Equal(got, want) {
		t.Errorf("Push of %v on %v: %v, %d; want %v, %d", x, l, got, e, want, wantErr)
	}
	if !slices.Equal(l, before) {
		t.Errorf("Push of %v changed %v to %v", x, before, l)
	}
}

func wantPop(t *testing.T, l []Tag, want Tag, left []Tag, wantErr api.Errno) {
	t.Helper()
	before := slices.Clone(l)
	x, got, e := Pop(l)
	if e != wantErr || x != want || !slices.Equal(got, left) {
		t.Errorf("Pop of %v: %v, %v, %d; want %v, %v, %d", l, x, got, e, want, left, wantErr)
	}
	if !slices.Equal(l, before) {
		t.Errorf("Pop changed %v to %v", before, l)
	}
}

// someTags are of both kinds, at the edges of each part.
func someTags() []Tag {
	var l []Tag
	for _, kind := range []uint16{Outer, Inner} {
		l = append(l, Tag{Kind: kind}, Tag{kind, 7, true, 4095}, Tag{kind, 5, true, 100}, Tag{kind, 0, false, 4094}, Tag{kind, 1, false, 1})
	}
	return l
}

// noTags are none for one part each, and for more than one.
func noTags() []Tag {
	return []Tag{
		{}, {Number: 5}, {Kind: 0x0800}, {Kind: 0x9100}, {Kind: 0x8101}, {Kind: 0xa888}, {Kind: 0x0081}, {Kind: 0x88a9}, {Kind: 0xffff},
		{Kind: Inner, Priority: 8}, {Kind: Outer, Priority: 8}, {Kind: Inner, Priority: 16}, {Kind: Inner, Priority: 255},
		{Kind: Inner, Number: 4096}, {Kind: Outer, Number: 4096}, {Kind: Inner, Number: 4096, Drop: true}, {Kind: Inner, Number: 8192}, {Kind: Inner, Number: 65535},
		{Kind: Inner, Priority: 7, Drop: true, Number: 65535}, {Kind: Inner, Priority: 9, Number: 8192}, {Kind: 0x0800, Priority: 8, Number: 4096},
	}
}

// slowBytes lays bit by bit, as the chapter tells it.
func slowBytes(x Tag) []byte {
	var bits []bool
	lay := func(n uint16, width int) {
		for i := width - 1; i >= 0; i-- {
			bits = append(bits, n>>i&1 == 1)
		}
	}
	lay(x.Kind, 16)
	lay(uint16(x.Priority), 3)
	bits = append(bits, x.Drop)
	lay(x.Number, 12)
	b := make([]byte, 4)
	for i, bit := range bits {
		if bit {
			b[i/8] |= 0x80 >> (i % 8)
		}
	}
	return b
}

// slowMay asks part by part.
func slowMay(l []Tag) bool {
	for _, x := range l {
		if x.Kind != 0x88a8 && x.Kind != 0x8100 || x.Priority > 7 || x.Number > 4095 {
			return false
		}
	}
	return len(l) < 2 || len(l) == 2 && l[1].Kind == 0x8100
}

// randomStack is one of 0 to 2 tags.
func randomStack(r *rand.Rand) []Tag {
	var l []Tag
	for range r.Intn(3) {
		l = append(l, Tag{Inner, uint8(r.Intn(8)), r.Intn(2) == 0, uint16(r.Intn(4096))})
	}
	if len(l) > 0 && r.Intn(2) == 0 {
		l[0].Kind = Outer
	}
	return l
}

// randomBytes are kinds of tags more often than chance has it.
func randomBytes(r *rand.Rand) []byte {
	var b []byte
	for range r.Intn(7) {
		switch r.Intn(4) {
		case 0:
			b = append(b, 0x88, 0xa8)
		case 1:
			b = append(b, 0x81, 0x00)
		case 2:
			b = append(b, byte(r.Intn(256)), byte(r.Intn(256)))
		case 3:
			b = append(b, []byte{0x81, 0x88, 0xa8, 0, 0xff}[r.Intn(5)])
		}
	}
	return b
}

// The numbers of the kinds are part of the chapter.
func TestKindsNumbers(t *testing.T) {
	if got := [2]int{Outer, Inner}; got != [2]int{0x88a8, 0x8100} {
		t.Errorf("%x", got)
	}
}

// P3.1: just two kinds, priorities 0 to 7 and numbers 0 to 4095 are a tag's.
func TestTagMay(t *testing.T) {
	for _, x := range someTags() {
		if !x.May() {
			t.Errorf("%v: may not be", x)
		}
	}
	for _, x := range noTags() {
		if x.May() {
			t.Errorf("%v: may be", x)
		}
	}
	for n := range 65536 {
		for _, drop := range []bool{false, true} {
			kind, number, priority := Tag{Kind: uint16(n), Drop: drop}, Tag{Kind: Outer, Drop: drop, Number: uint16(n)}, Tag{Kind: Inner, Priority: uint8(n), Drop: drop}
			if kind.May() != (n == 0x88a8 || n == 0x8100) || number.May() != (n < 4096) || priority.May() != (n%256 < 8) {
				t.Errorf("%v, %v or %v: %v, %v, %v", kind, number, priority, kind.May(), number.May(), priority.May())
			}
		}
	}
}

// P3.1: where one part may be, it does not make good another one that may not.
func TestTagMayOfAllParts(t *testing.T) {
	for _, kind := range []uint16{0, 0x8100, 0x88a8, 0x88a9, 0xffff} {
		for priority := range 256 {
			for _, number := range []uint16{0, 1, 4095, 4096, 4097, 8191, 8192, 32768, 65535} {
				for _, drop := range []bool{false, true} {
					x := Tag{kind, uint8(priority), drop, number}
					if got, want := x.May(), slowMay([]Tag{x}); got != want {
						t.Errorf("%v: %v, want %v", x, got, want)
					}
				}
			}
		}
	}
}

// P3.1, and the first row of the examples.
func TestTagBytes(t *testing.T) {
	rows := []struct {
		x    Tag
		want []byte
	}{
		{Tag{0x8100, 5, true, 100}, []byte{0x81, 0x00, 0xb0, 0x64}},
		{Tag{Kind: Inner}, []byte{0x81, 0x00, 0, 0}},
		{Tag{Kind: Outer}, []byte{0x88, 0xa8, 0, 0}},
		{Tag{Kind: Inner, Priority: 7}, []byte{0x81, 0x00, 0xe0, 0}},
		{Tag{Kind: Inner, Priority: 1}, []byte{0x81, 0x00, 0x20, 0}},
		{Tag{Kind: Inner, Drop: true}, []byte{0x81, 0x00, 0x10, 0}},
		{Tag{Kind: Inner, Number: 4095}, []byte{0x81, 0x00, 0x0f, 0xff}},
		{Tag{Kind: Inner, Number: 0x123}, []byte{0x81, 0x00, 0x01, 0x23}},
		{Tag{Outer, 7, true, 4095}, []byte{0x88, 0xa8, 0xff, 0xff}},
	}
	for _, r := range rows {
		wantBytes(t, "a tag", r.x.Bytes(), r.want)
		wantBytes(t, "the only one", Bytes(r.x), r.want)
	}
	for _, x := range noTags() {
		wantBytes(t, "what is none", x.Bytes(), nil)
	}
}

// P3.1, P3.2: every tag there is, and back.
func TestEveryTag(t *testing.T) {
	for _, kind := range []uint16{Outer, Inner} {
		for word := range 65536 {
			x := Tag{kind, uint8(word / 8192), word/4096%2 == 1, uint16(word % 4096)}
			b := x.Bytes()
			if !x.May() || !bytes.Equal(b, slowBytes(x)) {
				t.Fatalf("%v: %v, % x, want % x", x, x.May(), b, slowBytes(x))
			}
			if l, rest, e := Read(b); e != api.OK || len(l) != 1 || l[0] != x || len(rest) != 0 {
				t.Fatalf("Read of % x: %v, % x, %d; want %v", b, l, rest, e, x)
			}
		}
	}
}

// P3.1: none, one of either kind, or two, the second one of kind Inner.
func TestMay(t *testing.T) {
	outer, inner := Tag{Kind: Outer, Number: 9}, Tag{Kind: Inner, Number: 9}
	rows := []struct {
		l    []Tag
		want bool
	}{
		{nil, true}, {[]Tag{}, true},
		{[]Tag{outer}, true}, {[]Tag{inner}, true},
		{[]Tag{outer, inner}, true}, {[]Tag{inner, inner}, true},
		{[]Tag{outer, outer}, false}, {[]Tag{inner, outer}, false},
		{[]Tag{outer, inner, inner}, false}, {[]Tag{inner, inner, inner}, false}, {[]Tag{outer, outer, inner}, false}, {[]Tag{inner, inner, outer}, false},
		{make([]Tag, 1), false}, {make([]Tag, 2), false}, {[]Tag{{}, inner}, false}, {[]Tag{inner, {}}, false},
		{slices.Repeat([]Tag{inner}, 1000), false},
	}
	for _, r := range rows {
		if got := May(r.l); got != r.want {
			t.Errorf("May of %v: %v", r.l, got)
		}
	}
	all := append(someTags(), noTags()...)
	for _, x := range all {
		if got := May([]Tag{x}); got != x.May() {
			t.Errorf("May of %v alone: %v", x, got)
		}
		for _, y := range all {
			for _, l := range [][]Tag{{x, y}, {x, y, inner}, {x, inner, y}, {outer, x, y}} {
				if got, want := May(l), slowMay(l); got != want {
					t.Errorf("May of %v: %v, want %v", l, got, want)
				}
			}
		}
	}
}

// P3.1: one behind the other, as many as there are; none, if one may not be, wherever that stands.
func TestBytesOfMany(t *testing.T) {
	wantBytes(t, "of none", Bytes(), nil)
	wantBytes(t, "of an empty list", Bytes([]Tag{}...), nil)
	tags := someTags()
	var want []byte
	for n, x := range tags {
		want = append(want, slowBytes(x)...)
		wantBytes(t, "tags, be they a stack or not", Bytes(tags[:n+1]...), want)
	}
	slices.Reverse(tags)
	wantBytes(t, "two", Bytes(tags[0], tags[9]), append(slowBytes(tags[0]), slowBytes(tags[9])...))
	for _, x := range noTags() {
		for at := range 4 {
			l := slices.Clone(tags[:3])
			l = slices.Insert(l, at, x)
			wantBytes(t, "one is none", Bytes(l...), nil)
		}
	}
}

// P3.1: of any number; above 4095 it is no tag's.
func TestPlain(t *testing.T) {
	for n := range 65536 {
		want := Tag{Kind: 0x8100, Number: uint16(n)}
		if got := Plain(uint16(n)); got != want || got.May() != (n < 4096) {
			t.Errorf("Plain(%d): %v, %v", n, got, got.May())
		}
	}
}

// P3.2, and the second row of the examples.
func TestRead(t *testing.T) {
	rows := []struct {
		b     []byte
		stack []Tag
		rest  []byte
	}{
		{[]byte{0x88, 0xa8, 0, 5, 0x81, 0, 0, 7, 0x81, 0}, []Tag{{Kind: Outer, Number: 5}, {Kind: Inner, Number: 7}}, []byte{0x81, 0}},
		{nil, nil, nil},
		{[]byte{0x81}, nil, []byte{0x81}},
		{[]byte{0x88}, nil, []byte{0x88}},
		{[]byte{8, 0}, nil, []byte{8, 0}},
		{[]byte{0x81, 1, 0, 5}, nil, []byte{0x81, 1, 0, 5}},
		{[]byte{0x80, 0, 0, 5}, nil, []byte{0x80, 0, 0, 5}},
		{[]byte{0x00, 0x81, 0x00, 0, 5}, nil, []byte{0x00, 0x81, 0x00, 0, 5}},
		{[]byte{0xa8, 0x88, 0, 5}, nil, []byte{0xa8, 0x88, 0, 5}},
		{[]byte{0x91, 0, 0, 5}, nil, []byte{0x91, 0, 0, 5}},
		{[]byte{0x81, 0, 0, 5}, []Tag{{Kind: Inner, Number: 5}}, nil},
		{[]byte{0x81, 0, 0xb0, 0x64, 8}, []Tag{{Inner, 5, true, 100}}, []byte{8}},
		{[]byte{0x81, 0, 0, 5, 0x81}, []Tag{{Kind: Inner, Number: 5}}, []byte{0x81}},
		{[]byte{0x81, 0, 0, 5, 8, 0, 0xff}, []Tag{{Kind: Inner, Number: 5}}, []byte{8, 0, 0xff}},
		{[]byte{0x81, 0, 0, 5, 8, 0, 0x81, 0, 0, 6}, []Tag{{Kind: Inner, Number: 5}}, []byte{8, 0, 0x81, 0, 0, 6}},
		{[]byte{0x81, 0, 0, 5, 0x81, 0, 0, 6}, []Tag{{Kind: Inner, Number: 5}, {Kind: Inner, Number: 6}}, nil},
		{[]byte{0x81, 0, 0, 5, 0x88, 0xa8}, []Tag{{Kind: Inner, Number: 5}}, []byte{0x88, 0xa8}},
		{[]byte{0x81, 0, 0, 5, 0x88, 0xa8, 0}, []Tag{{Kind: Inner, Number: 5}}, []byte{0x88, 0xa8, 0}},
		{[]byte{0x88, 0xa8, 0, 5, 0x88, 0xa8, 0, 6}, []Tag{{Kind: Outer, Number: 5}}, []byte{0x88, 0xa8, 0, 6}},
		{[]byte{0x88, 0xa8, 0, 5, 0x88, 0xa8, 0, 6, 0x81, 0, 0, 7}, []Tag{{Kind: Outer, Number: 5}}, []byte{0x88, 0xa8, 0, 6, 0x81, 0, 0, 7}},
		{[]byte{0x88, 0xa8, 0x81, 0, 0x81, 0, 0x88, 0xa8}, []Tag{{Kind: Outer, Priority: 4, Number: 0x100}, {Inner, 4, false, 0x8a8}}, nil},
		{[]byte{0x81, 0, 0, 5, 0x81, 0, 0, 6, 0x81, 0, 0, 7}, []Tag{{Kind: Inner, Number: 5}, {Kind: Inner, Number: 6}}, []byte{0x81, 0, 0, 7}},
		{[]byte{0x81, 0, 0, 5, 0x81, 0, 0, 6, 0x88, 0xa8, 0}, []Tag{{Kind: Inner, Number: 5}, {Kind: Inner, Number: 6}}, []byte{0x88, 0xa8, 0}},
		{[]byte{0x81, 0, 0, 0, 0, 0}, []Tag{{Kind: Inner}}, []byte{0, 0}},
	}
	for _, r := range rows {
		before := slices.Clone(r.b)
		wantRead(t, r.b, r.stack, r.rest)
		wantBytes(t, "what was handed in", r.b, before)
	}
}

// P3.2: of one kind it hangs on the place whether it begins a tag.
func TestReadEveryKind(t *testing.T) {
	for kind := range 65536 {
		two := []byte{byte(kind >> 8), byte(kind)}
		for at, stack := range [][]Tag{nil, {{Outer, 1, true, 5}}, {{Inner, 1, true, 5}}, {{Kind: Outer}, {Kind: Inner}}, {{Kind: Inner}, {Kind: Inner}}} {
			may := kind == 0x8100 && len(stack) < 2 || kind == 0x88a8 && at == 0
			ahead := Bytes(stack...)
			whole := append(slices.Clone(ahead), append(two, 0x2f, 0xff, 0xaa)...)
			if may {
				wantRead(t, whole, append(slices.Clone(stack), Tag{uint16(kind), 1, false, 4095}), []byte{0xaa})
				wantShort(t, whole[:len(ahead)+2])
				wantShort(t, whole[:len(ahead)+3])
				continue
			}
			for n := len(ahead); n <= len(whole); n++ {
				wantRead(t, whole[:n], stack, whole[len(ahead):n])
			}
		}
	}
}

// P3.2: it is ErrShort where b ends within a tag, and only there.
func TestReadShort(t *testing.T) {
	for _, l := range [][]Tag{{{Kind: Outer, Number: 5}, {Kind: Inner, Number: 7}}, {{Kind: Inner, Number: 5}, {Kind: Inner, Number: 7}}} {
		b := append(Bytes(l...), 0x81, 0)
		for n := range len(b) + 1 {
			switch n {
			case 2, 3, 6, 7:
				wantShort(t, b[:n])
			default:
				tags := min(n/4, 2)
				wantRead(t, b[:n], l[:tags], b[4*tags:n])
			}
		}
	}
	wantShort(t, []byte{0x88, 0xa8})
	wantShort(t, []byte{0x88, 0xa8, 0x81})
	wantShort(t, []byte{0x81, 0, 0x81})
}

// P3.2: however many bytes are behind, they are the rest.
func TestReadLong(t *testing.T) {
	rest := bytes.Repeat([]byte{0x81, 0, 0, 1}, 1<<16)
	wantRead(t, append(Bytes(Plain(1), Plain(2)), rest...), []Tag{Plain(1), Plain(2)}, rest)
	rest = append([]byte{8, 0}, rest...)
	wantRead(t, rest, nil, rest)
}

// R3: what is told is new memory; what is handed in stays as it is, whatever is done with the answer.
func TestSharesNothing(t *testing.T) {
	b := []byte{0x81, 0, 0, 5, 8, 0, 1, 2}
	before := slices.Clone(b)
	_, rest, _ := Read(b[:6])
	rest[0] = 99
	_ = append(rest, 77, 77)
	wantBytes(t, "what was read", b, before)
	_, rest, _ = Read(b)
	b[4] = 55
	wantBytes(t, "a rest behind a change", rest, []byte{8, 0, 1, 2})

	room := []Tag{Plain(1), Plain(2), Plain(3), Plain(4)}
	pushed, _ := Push(room[:1], Plain(9))
	_, left, _ := Pop(room[:2])
	_, none, _ := Pop(room[:1])
	pushed[1], left[0] = Plain(77), Plain(77)
	_, _, _ = append(pushed, Plain(88)), append(left, Plain(88)), append(none, Plain(88))
	if want := []Tag{Plain(1), Plain(2), Plain(3), Plain(4)}; !slices.Equal(room, want) {
		t.Errorf("behind changed answers: %v", room)
	}
	room[0], room[1] = Plain(55), Plain(55)
	if pushed[1] != Plain(77) || left[0] != Plain(77) {
		t.Errorf("answers behind a change: %v, %v", pushed, left)
	}
}

// P3.3, and the third row of the examples.
func TestPush(t *testing.T) {
	outer, inner, none := Tag{Outer, 3, true, 9}, Tag{Inner, 4, false, 8}, Tag{Kind: Inner, Number: 4096}
	rows := []struct {
		l       []Tag
		x       Tag
		want    []Tag
		wantErr api.Errno
	}{
		{[]Tag{outer}, outer, nil, api.ErrArg},
		{[]Tag{outer}, inner, nil, api.ErrArg},
		{[]Tag{inner}, outer, []Tag{outer, inner}, api.OK},
		{[]Tag{inner}, inner, []Tag{inner, inner}, api.OK},
		{nil, outer, []Tag{outer}, api.OK},
		{[]Tag{}, inner, []Tag{inner}, api.OK},
		{nil, none, nil, api.ErrArg},
		{nil, Tag{}, nil, api.ErrArg},
		{[]Tag{inner}, none, nil, api.ErrArg},
		{[]Tag{none}, inner, nil, api.ErrArg},
		{[]Tag{outer, inner}, outer, nil, api.ErrFull},
		{[]Tag{outer, inner}, inner, nil, api.ErrFull},
		{[]Tag{inner, inner}, outer, nil, api.ErrFull},
		{[]Tag{inner, inner}, inner, nil, api.ErrFull},
		{[]Tag{inner, inner}, none, nil, api.ErrArg},
		{[]Tag{inner, outer}, inner, nil, api.ErrArg},
		{[]Tag{inner, none}, inner, nil, api.ErrArg},
		{[]Tag{outer, outer}, inner, nil, api.ErrArg},
		{[]Tag{inner, inner, inner}, inner, nil, api.ErrArg},
		{[]Tag{outer, inner, inner}, none, nil, api.ErrArg},
	}
	for _, r := range rows {
		wantPush(t, r.l, r.x, r.want, r.wantErr)
	}
}

// P3.3: the outer tag, and what is left.
func TestPop(t *testing.T) {
	outer, inner, none := Tag{Outer, 3, true, 9}, Tag{Inner, 4, false, 8}, Tag{Kind: Inner, Priority: 8}
	rows := []struct {
		l       []Tag
		want    Tag
		left    []Tag
		wantErr api.Errno
	}{
		{[]Tag{outer, inner}, outer, []Tag{inner}, api.OK},
		{[]Tag{inner, Plain(5)}, inner, []Tag{Plain(5)}, api.OK},
		{[]Tag{outer}, outer, nil, api.OK},
		{[]Tag{inner}, inner, nil, api.OK},
		{nil, Tag{}, nil, api.ErrNone},
		{[]Tag{}, Tag{}, nil, api.ErrNone},
		{[]Tag{none}, Tag{}, nil, api.ErrArg},
		{[]Tag{{}}, Tag{}, nil, api.ErrArg},
		{[]Tag{none, inner}, Tag{}, nil, api.ErrArg},
		{[]Tag{outer, none}, Tag{}, nil, api.ErrArg},
		{[]Tag{outer, outer}, Tag{}, nil, api.ErrArg},
		{[]Tag{inner, outer}, Tag{}, nil, api.ErrArg},
		{[]Tag{outer, inner, inner}, Tag{}, nil, api.ErrArg},
	}
	for _, r := range rows {
		wantPop(t, r.l, r.want, r.left, r.wantErr)
	}
}

// P3.3, P3.5: of every two or three, pushed is what may be, and popped again it is the tag and the stack.
func TestPushAndPop(t *testing.T) {
	all := append(someTags(), noTags()...)
	stacks := [][]Tag{nil}
	for _, x := range all {
		stacks = append(stacks, []Tag{x})
		for _, y := range all {
			stacks = append(stacks, []Tag{x, y})
		}
	}
	for _, l := range stacks {
		for _, x := range all {
			on := append([]Tag{x}, l...)
			switch {
			case !slowMay(l) || !slowMay([]Tag{x}):
				wantPush(t, l, x, nil, api.ErrArg)
			case len(l) == 2:
				wantPush(t, l, x, nil, api.ErrFull)
			case !slowMay(on):
				wantPush(t, l, x, nil, api.ErrArg)
			default:
				wantPush(t, l, x, on, api.OK)
				wantPop(t, on, x, l, api.OK)
			}
		}
	}
}

// P3.4: what a stack's bytes tell is the stack, and what is behind them is the rest.
func TestThereAndBack(t *testing.T) {
	r := rand.New(rand.NewSource(1))
	for range 20000 {
		l, rest := randomStack(r), randomBytes(r)
		if len(l) < 2 && len(rest) > 1 && (rest[0] == 0x81 && rest[1] == 0 || rest[0] == 0x88 && rest[1] == 0xa8) {
			rest[0] = 8
		}
		wantRead(t, append(Bytes(l...), rest...), l, rest)
	}
}

// P3.4: whatever is read, it is laid again.
func TestBackAndThere(t *testing.T) {
	r := rand.New(rand.NewSource(2))
	read := [3]int{}
	for range 50000 {
		b := randomBytes(r)
		l, rest, e := Read(b)
		if e != api.OK {
			wantShort(t, b)
			continue
		}
		if !May(l) {
			t.Fatalf("Read of % x: %v may not be", b, l)
		}
		read[len(l)]++
		wantBytes(t, "laid again", append(Bytes(l...), rest...), b)
	}
	if slices.Min(read[:]) < 100 {
		t.Errorf("too few of some: %v", read)
	}
}

// The rows of the chapter's section 'Examples'.
func TestExamples(t *testing.T) {
	wantBytes(t, "bytes", Tag{Kind: 0x8100, Priority: 5, Drop: true, Number: 100}.Bytes(), []byte{0x81, 0x00, 0xb0, 0x64})
	l, rest, e := Read([]byte{0x88, 0xa8, 0x00, 0x05, 0x81, 0x00, 0x00, 0x07, 0x81, 0x00})
	if e != api.OK || len(l) != 2 || l[0].Number != 5 || l[1].Number != 7 || !bytes.Equal(rest, []byte{0x81, 0x00}) {
		t.Errorf("%v, % x, %d", l, rest, e)
	}
	if l, e := Push([]Tag{{Kind: Outer}}, Tag{Kind: Outer}); e != api.ErrArg || len(l) != 0 {
		t.Errorf("%v, %d", l, e)
	}
}
