package table

import (
	"cmp"
	"math"
	"math/rand"
	"slices"
	"strconv"
	"strings"
	"testing"

	"toll/api"
)

func wantErr(t *testing.T, what string, got, want api.Errno) {
	t.Helper()
	if got != want {
		t.Errorf("%s: got error %v, want %v", what, got, want)
	}
}

func wantList(t *testing.T, what string, got []Entry[int], want ...Entry[int]) {
	t.Helper()
	if !slices.Equal(got, want) {
		t.Errorf("%s: got %v, want %v", what, got, want)
	}
}

// wantGone asks what Put or Fix answered: what went for it, and the error.
func wantGone(t *testing.T, what string, got Entry[int], e api.Errno, want Entry[int], wanted api.Errno) {
	t.Helper()
	if got != want || e != wanted {
		t.Errorf("%s: got %v, error %v, want %v, error %v", what, got, e, want, wanted)
	}
}

func wantGet(t *testing.T, x *Table[int], key string, want Entry[int], is bool) {
	t.Helper()
	if e, ok := x.Get(key); e != want || ok != is {
		t.Errorf("Get %q: got %v %v, want %v %v", key, e, ok, want, is)
	}
}

// wantTable asks all that can be told without a change; want is by rising keys.
func wantTable(t *testing.T, x *Table[int], room int, want ...Entry[int]) {
	t.Helper()
	wantList(t, "All", x.All(), want...)
	if x.Len() != len(want) || x.Room() != room {
		t.Errorf("got %v of %v, want %v of %v", x.Len(), x.Room(), len(want), room)
	}
	for _, e := range want {
		wantGet(t, x, e.Key, e, true)
	}
}

func put(key string, v int, at int64) Entry[int] { return Entry[int]{Key: key, Value: v, At: at} }

func fixed(key string, v int) Entry[int] { return Entry[int]{Key: key, Value: v, Static: true} }

// add puts or fixes an entry.
func add(x *Table[int], e Entry[int]) (Entry[int], api.Errno) {
	if e.Static {
		return x.Fix(e.Key, e.Value)
	}
	return x.Put(e.Key, e.Value, e.At)
}

// with makes a table of what is listed, for which there is room.
func with(t *testing.T, room int, refuses bool, l ...Entry[int]) *Table[int] {
	t.Helper()
	x, e := New[int](room, refuses)
	wantErr(t, "New", e, api.OK)
	for _, one := range l {
		gone, e := add(x, one)
		wantGone(t, "add "+one.Key, gone, e, Entry[int]{}, api.OK)
	}
	return x
}

func always(e Entry[int]) bool { return true }

// P13.1: 0 to MaxRoom, whether it refuses or makes room; what New makes lives apart from all that it made before.
func TestNew(t *testing.T) {
	if MaxRoom != 1024 {
		t.Error("MaxRoom", MaxRoom)
	}
	for _, refuses := range []bool{false, true} {
		for _, room := range []int{-1, MaxRoom + 1, math.MinInt, math.MaxInt} {
			x, e := New[int](room, refuses)
			if x != nil || e != api.ErrArg {
				t.Errorf("New %v: got %v, error %v", room, x, e)
			}
		}
		for _, room := range []int{0, 1, 2, MaxRoom - 1, MaxRoom} {
			wantTable(t, with(t, room, refuses), room)
		}
		a, b := with(t, 2, refuses), with(t, 3, refuses)
		a.Put("a", 1, 1)
		wantTable(t, b, 3)
		b.Fix("a", 2)
		wantTable(t, a, 2, put("a", 1, 1))
		wantTable(t, b, 3, fixed("a", 2))
	}
}

// P13.1 to P13.4: a table that New did not make, or none.
func TestNotMade(t *testing.T) {
	for _, x := range []*Table[int]{nil, {}, new(Table[int])} {
		for _, key := range []string{"a", "", strings.Repeat("k", 65)} {
			gone, e := x.Put(key, 1, -1)
			wantGone(t, "Put", gone, e, Entry[int]{}, api.ErrNil)
			gone, e = x.Put(key, 1, 1)
			wantGone(t, "Put", gone, e, Entry[int]{}, api.ErrNil)
			gone, e = x.Fix(key, 1)
			wantGone(t, "Fix", gone, e, Entry[int]{}, api.ErrNil)
			wantErr(t, "Touch", x.Touch(key, 1), api.ErrNil)
			wantErr(t, "Touch", x.Touch(key, -1), api.ErrNil)
			wantErr(t, "Drop", x.Drop(key), api.ErrNil)
			wantGet(t, x, key, Entry[int]{}, false)
		}
		wantList(t, "Due", x.Due(api.MaxTicks))
		wantList(t, "Sweep", x.Sweep(always))
		wantList(t, "Sweep", x.Sweep(nil))
		wantTable(t, x, 0)
		if x.Copy() != nil {
			t.Error("Copy of none")
		}
	}
}

// P13.1, P13.2, P13.3: 1 to 64 bytes, whatever bytes; bytes, not runes, are counted.
func TestKeys(t *testing.T) {
	good := []string{"a", "\x00", "\xff", " ", strings.Repeat("k", 64), strings.Repeat("\u00e9", 32), strings.Repeat("\x00", 64), strings.Repeat("\xff", 64)}
	bad := []string{"", strings.Repeat("k", 65), strings.Repeat("\u00e9", 33), strings.Repeat("\u00e9", 64), strings.Repeat("\x00", 65), strings.Repeat("k", 1<<16)}
	for _, key := range good {
		x := with(t, 1, true, put(key, 1, 2))
		wantTable(t, x, 1, put(key, 1, 2))
		wantErr(t, "Touch", x.Touch(key, 3), api.OK)
		wantTable(t, x, 1, put(key, 1, 3))
		gone, e := x.Fix(key, 4)
		wantGone(t, "Fix", gone, e, Entry[int]{}, api.OK)
		wantTable(t, x, 1, fixed(key, 4))
		wantErr(t, "Drop", x.Drop(key), api.OK)
		wantTable(t, x, 1)
		wantTable(t, with(t, 1, true, fixed(key, 4)), 1, fixed(key, 4))
	}
	for _, refuses := range []bool{false, true} {
		for _, x := range []*Table[int]{with(t, 1, refuses, put("k", 1, 2)), with(t, 2, refuses, put("k", 1, 2))} {
			for _, key := range bad {
				gone, e := x.Put(key, 1, 2)
				wantGone(t, "Put of no key", gone, e, Entry[int]{}, api.ErrArg)
				gone, e = x.Fix(key, 1)
				wantGone(t, "Fix of no key", gone, e, Entry[int]{}, api.ErrArg)
				wantErr(t, "Touch of no key", x.Touch(key, 3), api.ErrNone)
				wantErr(t, "Drop of no key", x.Drop(key), api.ErrNone)
				wantGet(t, x, key, Entry[int]{}, false)
				wantTable(t, x, x.Room(), put("k", 1, 2))
			}
		}
	}
}

// P13.2, P13.3: deadlines are 0 to MaxTicks; with an error nothing has changed.
func TestDeadlines(t *testing.T) {
	l := []Entry[int]{put("a", 1, 4), fixed("b", 2)}
	for _, room := range []int{2, 3} {
		x := with(t, room, false, l...)
		for _, at := range []int64{-1, math.MinInt64, api.MaxTicks + 1, math.MaxInt64} {
			for _, key := range []string{"a", "b", "c", ""} {
				gone, e := x.Put(key, 9, at)
				wantGone(t, "Put until what is no deadline", gone, e, Entry[int]{}, api.ErrArg)
				wantErr(t, "Touch until what is no deadline", x.Touch(key, at), api.ErrArg)
				wantTable(t, x, room, l...)
			}
		}
		for _, at := range []int64{0, 1, api.MaxTicks - 1, api.MaxTicks} {
			gone, e := x.Put("a", 5, at)
			wantGone(t, "Put", gone, e, Entry[int]{}, api.OK)
			wantTable(t, x, room, put("a", 5, at), l[1])
			x.Put("a", 6, 7)
			wantErr(t, "Touch", x.Touch("a", at), api.OK)
			wantTable(t, x, room, put("a", 6, at), l[1])
		}
	}
}

// P13.1: all, by the bytes of keys; nothing is told of what is not there.
func TestAll(t *testing.T) {
	keys := []string{"\x00", "\x00\x00", "10", "9", "A", "Z", "a", "a\x00", "aa", "b", "\u00e9", "\uffee", "\U0001f600", "\xff"}
	r := rand.New(rand.NewSource(13))
	for range 50 {
		var l []Entry[int]
		for i, key := range keys {
			if r.Intn(3) == 0 {
				l = append(l, fixed(key, i))
			} else {
				l = append(l, put(key, i, r.Int63n(3)))
			}
		}
		mixed := slices.Clone(l)
		r.Shuffle(len(mixed), func(i, j int) { mixed[i], mixed[j] = mixed[j], mixed[i] })
		x := with(t, 20, false, mixed...)
		wantTable(t, x, 20, l...)
		for _, key := range []string{"", "aaa", "B", "a ", "\xff\xff"} {
			wantGet(t, x, key, Entry[int]{}, false)
		}
	}
}

// P13.2: what is there already has the new value and deadline; nothing goes, full or not.
func TestPutAgain(t *testing.T) {
	for _, refuses := range []bool{false, true} {
		for _, room := range []int{2, 3} {
			x := with(t, room, refuses, put("a", 1, 5), put("b", 2, 3))
			for _, at := range []int64{9, 0, 3, 3} {
				gone, e := x.Put("a", int(at)+10, at)
				wantGone(t, "Put again", gone, e, Entry[int]{}, api.OK)
				wantTable(t, x, room, put("a", int(at)+10, at), put("b", 2, 3))
			}
			wantList(t, "Due", x.Due(3), put("a", 13, 3), put("b", 2, 3))
		}
	}
}

// P13.2: what is static may be neither put nor touched, but fixed, and dropped.
func TestStatic(t *testing.T) {
	for _, refuses := range []bool{false, true} {
		for _, room := range []int{1, 2} {
			x := with(t, room, refuses, fixed("a", 1))
			gone, e := x.Put("a", 2, 5)
			wantGone(t, "Put of what is static", gone, e, Entry[int]{}, api.ErrThere)
			wantErr(t, "Touch of what is static", x.Touch("a", 5), api.ErrThere)
			wantTable(t, x, room, fixed("a", 1))
			gone, e = x.Fix("a", 3)
			wantGone(t, "Fix again", gone, e, Entry[int]{}, api.OK)
			wantTable(t, x, room, fixed("a", 3))
			wantList(t, "Due", x.Due(math.MaxInt64))
			wantList(t, "Sweep", x.Sweep(always))
			wantTable(t, x, room, fixed("a", 3))
			wantErr(t, "Drop", x.Drop("a"), api.OK)
			wantTable(t, x, room)
			gone, e = x.Put("a", 4, 5)
			wantGone(t, "Put of what was static", gone, e, Entry[int]{}, api.OK)
			wantTable(t, x, room, put("a", 4, 5))
		}
	}
}

// P13.2: what is fixed has no deadline any more, and never goes for another one.
func TestFixWhatIsThere(t *testing.T) {
	for _, refuses := range []bool{false, true} {
		x := with(t, 2, refuses, put("a", 1, 1), put("b", 2, 2))
		gone, e := x.Fix("a", 3)
		wantGone(t, "Fix", gone, e, Entry[int]{}, api.OK)
		wantTable(t, x, 2, fixed("a", 3), put("b", 2, 2))
		wantList(t, "Due", x.Due(1))
		wantTable(t, x, 2, fixed("a", 3), put("b", 2, 2))
		left := put("b", 2, 2)
		if !refuses {
			gone, e = x.Put("c", 4, 0)
			wantGone(t, "Put", gone, e, left, api.OK)
			left = put("c", 4, 0)
			wantTable(t, x, 2, fixed("a", 3), left)
		}
		wantList(t, "Due", x.Due(2), left)
		wantTable(t, x, 2, fixed("a", 3))
	}
}

// P13.2: a full table that refuses: another key is refused, with nothing changed; when one is gone there is room.
func TestRefuses(t *testing.T) {
	for _, l := range [][]Entry[int]{
		{put("a", 1, 0), put("b", 2, 3)},
		{put("a", 1, 0), fixed("b", 2)},
		{fixed("a", 1), fixed("b", 2)},
	} {
		x := with(t, 2, true, l...)
		for _, another := range []Entry[int]{put("c", 3, 0), put("c", 3, 9), fixed("c", 3)} {
			gone, e := add(x, another)
			wantGone(t, "one too many", gone, e, Entry[int]{}, api.ErrFull)
			wantTable(t, x, 2, l...)
			wantGet(t, x, "c", Entry[int]{}, false)
		}
		x.Drop("a")
		gone, e := x.Put("c", 3, 4)
		wantGone(t, "Put, when there is room", gone, e, Entry[int]{}, api.OK)
		wantTable(t, x, 2, l[1], put("c", 3, 4))
	}
}

// P13.2, P13.6: what goes is of the least deadline, then of the least key; it goes for one of whatever deadline, and for a static one.
func TestMakesRoom(t *testing.T) {
	for _, c := range []struct {
		l     []Entry[int]
		first int
	}{
		{[]Entry[int]{put("a", 1, 0)}, 0},
		{[]Entry[int]{put("a", 1, 3), put("b", 2, 5)}, 0},
		{[]Entry[int]{put("a", 1, 5), put("b", 2, 3)}, 1},
		{[]Entry[int]{put("a", 1, 5), put("b", 2, 5), put("c", 3, 5)}, 0},
		{[]Entry[int]{put("10", 1, 5), put("9", 2, 5)}, 0},
		{[]Entry[int]{put("a", 1, 5), put("a\x00", 2, 5), put("\xff", 3, 6)}, 0},
		{[]Entry[int]{fixed("a", 1), put("b", 2, 5), put("c", 3, 4), put("d", 4, 4)}, 2},
		{[]Entry[int]{fixed("a", 1), put("b", 2, api.MaxTicks), fixed("c", 3)}, 1},
	} {
		for _, another := range []Entry[int]{put("x", 9, 0), put("x", 9, 4), put("x", 9, api.MaxTicks), fixed("x", 9)} {
			for _, turned := range []bool{false, true} {
				l := slices.Clone(c.l)
				if turned {
					slices.Reverse(l)
				}
				x := with(t, len(l), false, l...)
				gone, e := add(x, another)
				wantGone(t, "one too many", gone, e, c.l[c.first], api.OK)
				want := append(slices.Delete(slices.Clone(c.l), c.first, c.first+1), another)
				slices.SortFunc(want, byKey)
				wantTable(t, x, len(l), want...)
				wantGet(t, x, c.l[c.first].Key, Entry[int]{}, false)
				wantErr(t, "Drop of what went", x.Drop(c.l[c.first].Key), api.ErrNone)
			}
		}
	}
}

// P13.2: of all static, and of none (as there is no room), none can go.
func TestNoneCanGo(t *testing.T) {
	for _, refuses := range []bool{false, true} {
		for _, l := range [][]Entry[int]{{}, {fixed("a", 1)}, {fixed("a", 1), fixed("b", 2)}} {
			x := with(t, len(l), refuses, l...)
			for _, another := range []Entry[int]{put("c", 3, 0), fixed("c", 3)} {
				gone, e := add(x, another)
				wantGone(t, "one too many", gone, e, Entry[int]{}, api.ErrFull)
				wantTable(t, x, len(l), l...)
			}
		}
	}
}

// P13.2, P13.3: a deadline that is another one now is what counts: who goes, and who is due.
func TestMovedDeadlines(t *testing.T) {
	l := []Entry[int]{put("a", 1, 1), put("b", 2, 2), put("c", 3, 3)}
	moves := []func(x *Table[int]){
		func(x *Table[int]) { x.Touch("a", 9) },
		func(x *Table[int]) { x.Put("a", 1, 9) },
		func(x *Table[int]) { x.Fix("a", 1); x.Drop("a"); x.Put("a", 1, 9) },
		func(x *Table[int]) { x.Touch("a", 0); x.Touch("a", 9) },
	}
	for _, move := range moves {
		x := with(t, 3, false, l...)
		move(x)
		gone, e := x.Put("d", 4, 8)
		wantGone(t, "Put", gone, e, l[1], api.OK)
		wantList(t, "Due", x.Due(8), l[2], put("d", 4, 8))
		wantTable(t, x, 3, put("a", 1, 9))
	}
	x := with(t, 3, false, l...)
	wantErr(t, "Touch", x.Touch("c", 0), api.OK)
	wantErr(t, "Touch of what is not there", x.Touch("d", 0), api.ErrNone)
	wantTable(t, x, 3, l[0], l[1], put("c", 3, 0))
	gone, e := x.Fix("d", 4)
	wantGone(t, "Fix", gone, e, put("c", 3, 0), api.OK)
}

// P13.3: whatever it is, it is gone, and may come anew.
func TestDrop(t *testing.T) {
	l := []Entry[int]{put("a", 1, 5), fixed("b", 2), put("c", 3, 4), fixed("d", 4)}
	for i, one := range l {
		for _, refuses := range []bool{false, true} {
			x := with(t, 4, refuses, l...)
			rest := slices.Delete(slices.Clone(l), i, i+1)
			wantErr(t, "Drop", x.Drop(one.Key), api.OK)
			wantTable(t, x, 4, rest...)
			wantGet(t, x, one.Key, Entry[int]{}, false)
			wantErr(t, "Drop again", x.Drop(one.Key), api.ErrNone)
			wantErr(t, "Touch of what is gone", x.Touch(one.Key, 1), api.ErrNone)
			wantErr(t, "Drop of another", x.Drop("e"), api.ErrNone)
			wantTable(t, x, 4, rest...)
			gone, e := add(x, one)
			wantGone(t, "add again", gone, e, Entry[int]{}, api.OK)
			wantTable(t, x, 4, l...)
			x.Drop(one.Key)
			wantList(t, "Due", x.Due(math.MaxInt64), ends(rest)...)
		}
	}
}

// ends is those that are not static, by deadlines, then keys.
func ends(l []Entry[int]) []Entry[int] {
	var out []Entry[int]
	for _, e := range l {
		if !e.Static {
			out = append(out, e)
		}
	}
	slices.SortFunc(out, func(x, y Entry[int]) int { return cmp.Or(cmp.Compare(x.At, y.At), strings.Compare(x.Key, y.Key)) })
	return out
}

func byKey(x, y Entry[int]) int { return strings.Compare(x.Key, y.Key) }

// P13.4: at most now, by deadlines, then keys; static ones never.
func TestDue(t *testing.T) {
	l := []Entry[int]{put("z", 1, 0), put("a", 2, 3), put("b", 3, 3), put("\xff", 4, 3), put("A", 5, 4), put("c", 6, api.MaxTicks)}
	all := append(slices.Clone(l), fixed("d", 7), fixed("\x00", 8))
	for now, n := range map[int64]int{
		math.MinInt64: 0, -1: 0, 0: 1, 1: 1, 2: 1, 3: 4, 4: 5, 5: 5,
		api.MaxTicks - 1: 5, api.MaxTicks: 6, api.MaxTicks + 1: 6, math.MaxInt64: 6,
	} {
		x := with(t, 8, false, all...)
		wantList(t, "Due", x.Due(now), l[:n]...)
		left := slices.Clone(all[n:])
		slices.SortFunc(left, byKey)
		wantTable(t, x, 8, left...)
		wantList(t, "Due again", x.Due(now))
		wantTable(t, x, 8, left...)
	}
	wantList(t, "Due of none", with(t, 8, false).Due(api.MaxTicks))
}

// P13.4: asked of each that is not static, by rising keys; told in that order.
func TestSweep(t *testing.T) {
	l := []Entry[int]{put("A", 1, 9), fixed("B", 1), put("a", 2, 3), put("aa", 1, 0), fixed("b", 2), put("c", 2, 5), put("\xff", 1, 4)}
	for _, c := range []struct {
		gone func(e Entry[int]) bool
		want []Entry[int]
	}{
		{always, []Entry[int]{l[0], l[2], l[3], l[5], l[6]}},
		{func(e Entry[int]) bool { return false }, nil},
		{func(e Entry[int]) bool { return e.Value == 1 }, []Entry[int]{l[0], l[3], l[6]}},
		{func(e Entry[int]) bool { return e.Value == 2 }, []Entry[int]{l[2], l[5]}},
		{func(e Entry[int]) bool { return e.At < 5 }, []Entry[int]{l[2], l[3], l[6]}},
		{func(e Entry[int]) bool { return strings.HasPrefix(e.Key, "a") }, []Entry[int]{l[2], l[3]}},
	} {
		x := with(t, 8, false, l...)
		var asked []Entry[int]
		swept := x.Sweep(func(e Entry[int]) bool {
			asked = append(asked, e)
			return c.gone(e)
		})
		wantList(t, "asked", asked, l[0], l[2], l[3], l[5], l[6])
		wantList(t, "swept", swept, c.want...)
		left := slices.DeleteFunc(slices.Clone(l), func(e Entry[int]) bool { return slices.Contains(c.want, e) })
		wantTable(t, x, 8, left...)
		wantList(t, "Due", x.Due(math.MaxInt64), ends(left)...)
	}
	wantList(t, "Sweep of none", with(t, 8, false).Sweep(always))
}

// P13.4: no function tells true of nothing; one that panics has told true of what it told true of.
func TestSweepWithWhatMayNotBe(t *testing.T) {
	l := []Entry[int]{put("a", 1, 1), put("b", 2, 2), put("c", 3, 3)}
	x := with(t, 3, false, l...)
	wantList(t, "Sweep", x.Sweep(nil))
	wantTable(t, x, 3, l...)
	swept := x.Sweep(func(e Entry[int]) bool {
		if e.Key == "b" {
			panic("b")
		}
		return true
	})
	wantList(t, "Sweep", swept, l[0], l[2])
	wantTable(t, x, 3, l[1])
}

// P13.4, P13.5: gone may call the table: what it drops, or fixes, does not go once more, and what it lays anew is told as it is then.
func TestSweepWithinSweep(t *testing.T) {
	l := []Entry[int]{put("a", 1, 1), put("b", 2, 2), put("c", 3, 3), put("d", 4, 4)}
	for _, c := range []struct {
		does       func(x *Table[int])
		want, left []Entry[int]
	}{
		{func(x *Table[int]) { x.Drop("a") }, l[1:], nil},
		{func(x *Table[int]) { x.Drop("b") }, []Entry[int]{l[0], l[2], l[3]}, nil},
		{func(x *Table[int]) { x.Fix("a", 5) }, l[1:], []Entry[int]{fixed("a", 5)}},
		{func(x *Table[int]) { x.Fix("c", 5) }, []Entry[int]{l[0], l[1], l[3]}, []Entry[int]{fixed("c", 5)}},
		{func(x *Table[int]) { x.Put("e", 5, 5) }, l[1:], []Entry[int]{put("e", 5, 5)}},
		{func(x *Table[int]) { x.Put("c", 5, 6) }, []Entry[int]{l[0], l[1], put("c", 5, 6), l[3]}, nil},
		{func(x *Table[int]) { x.Due(9) }, nil, nil},
	} {
		x := with(t, 4, false, l...)
		swept := x.Sweep(func(e Entry[int]) bool {
			if e.Key == "a" {
				c.does(x)
			}
			return true
		})
		wantList(t, "swept", swept, c.want...)
		wantTable(t, x, 4, c.left...)
	}
	x := with(t, 4, false, l...)
	x.Sweep(func(e Entry[int]) bool {
		if x.Len() != len(l) {
			t.Errorf("asked of %v: %v are left", e, x.Len())
		}
		return true
	})
	x = with(t, 4, false, l...)
	var asked []Entry[int]
	x.Sweep(func(e Entry[int]) bool {
		asked = append(asked, e)
		x.Drop("b")
		x.Fix("c", 3)
		return false
	})
	wantList(t, "asked", asked, l[0], l[3])
}

// P13.1: a copy lives apart, whichever of both changes, and however; it has the same room, and refuses likewise.
func TestCopy(t *testing.T) {
	l := []Entry[int]{put("a", 1, 1), put("b", 2, 2), fixed("c", 3), put("d", 4, 4)}
	for _, refuses := range []bool{false, true} {
		for _, change := range []func(x *Table[int]){
			func(x *Table[int]) { x.Put("a", 1, 9) },
			func(x *Table[int]) { x.Put("a", 9, 1) },
			func(x *Table[int]) { x.Put("e", 5, 5) },
			func(x *Table[int]) { x.Fix("e", 5) },
			func(x *Table[int]) { x.Fix("b", 2) },
			func(x *Table[int]) { x.Fix("c", 9) },
			func(x *Table[int]) { x.Touch("d", 0) },
			func(x *Table[int]) { x.Drop("a") },
			func(x *Table[int]) { x.Drop("c") },
			func(x *Table[int]) { x.Due(2) },
			func(x *Table[int]) { x.Sweep(always) },
		} {
			x := with(t, 4, refuses, l...)
			y := x.Copy()
			wantTable(t, y, 4, l...)
			change(y)
			wantTable(t, x, 4, l...)
			y = x.Copy()
			change(x)
			wantTable(t, y, 4, l...)
			left := wantFull(t, y, refuses, l)
			wantList(t, "Due of a copy", y.Due(math.MaxInt64), ends(left)...)
		}
		x := with(t, 1, refuses)
		y := x.Copy()
		gone, e := y.Put("a", 1, 1)
		wantGone(t, "Put in a copy", gone, e, Entry[int]{}, api.OK)
		wantTable(t, x, 1)
		wantTable(t, y, 1, put("a", 1, 1))
	}
	wantTable(t, with(t, 0, true).Copy(), 0)
}

// wantFull asks that a full table of l refuses another key, or that l's first goes for it; it tells what is left of l.
func wantFull(t *testing.T, x *Table[int], refuses bool, l []Entry[int]) []Entry[int] {
	t.Helper()
	gone, e := x.Put("another", 5, 0)
	if refuses {
		wantGone(t, "one too many", gone, e, Entry[int]{}, api.ErrFull)
		return l
	}
	wantGone(t, "one too many", gone, e, l[0], api.OK)
	wantErr(t, "Drop", x.Drop("another"), api.OK)
	return l[1:]
}

// P13.1, P13.4: what is told is new memory.
func TestNewMemory(t *testing.T) {
	l := []Entry[int]{put("a", 1, 1), put("b", 2, 2), fixed("c", 3), put("d", 4, 4)}
	x := with(t, 4, false, l...)
	spoil := func(told []Entry[int]) {
		told = told[:cap(told)]
		for i := range told {
			told[i] = put("spoilt", 99, 99)
		}
	}
	spoil(x.All())
	wantTable(t, x, 4, l...)
	due := x.Due(1)
	x.Put("a", 5, 5)
	wantList(t, "Due, after a Put", due, l[0])
	spoil(due)
	wantTable(t, x, 4, put("a", 5, 5), l[1], l[2], l[3])
	spoil(x.Sweep(func(e Entry[int]) bool { return e.Key == "a" }))
	wantTable(t, x, 4, l[1], l[2], l[3])
}

// The chapter's "Values are told as they were handed in": of whatever type, the very ones.
func TestValues(t *testing.T) {
	bytes := []byte{1, 2, 3}
	x, _ := New[[]byte](1, false)
	x.Put("a", bytes, 1)
	if e, _ := x.Get("a"); &e.Value[0] != &bytes[0] || len(e.Value) != 3 {
		t.Error("another slice", e)
	}
	if gone, _ := x.Put("b", nil, 1); &gone.Value[0] != &bytes[0] {
		t.Error("another slice", gone)
	}
	if e, is := x.Get("b"); e.Value != nil || !is {
		t.Error(e, is)
	}
	type pair struct {
		n float64
		p *int
	}
	n := 5
	y, _ := New[pair](1, true)
	y.Fix("a", pair{math.NaN(), &n})
	if e, is := y.Get("a"); !is || e.Value.n == e.Value.n || e.Value.p != &n {
		t.Error(e, is)
	}
	z, _ := New[any](1, true)
	z.Put("a", nil, 1)
	if l := z.Due(1); len(l) != 1 || l[0].Value != nil {
		t.Error(l)
	}
}

// P13.1, P13.5: as many as MaxRoom.
func TestMaxRoom(t *testing.T) {
	for _, refuses := range []bool{false, true} {
		x := with(t, MaxRoom, refuses)
		for i := range MaxRoom {
			gone, e := x.Put(strconv.Itoa(i), i, int64(i%7))
			wantGone(t, "Put", gone, e, Entry[int]{}, api.OK)
		}
		if x.Len() != MaxRoom {
			t.Error(x.Len())
		}
		gone, e := x.Put("a", 1, 1)
		if refuses {
			wantGone(t, "Put of one more", gone, e, Entry[int]{}, api.ErrFull)
		} else {
			wantGone(t, "Put of one more", gone, e, put("0", 0, 0), api.OK)
		}
		if x.Len() != MaxRoom {
			t.Error(x.Len())
		}
	}
}

// model is a table told the plain way.
type model struct {
	entries []Entry[int]
	room    int
	refuses bool
}

func (m *model) place(key string) int {
	return slices.IndexFunc(m.entries, func(e Entry[int]) bool { return e.Key == key })
}

func (m *model) drop(key string) {
	m.entries = slices.DeleteFunc(m.entries, func(e Entry[int]) bool { return e.Key == key })
}

func (m *model) add(e Entry[int]) (gone Entry[int], err api.Errno) {
	place := m.place(e.Key)
	switch could := ends(m.entries); {
	case place >= 0 && m.entries[place].Static && !e.Static:
		return gone, api.ErrThere
	case place >= 0:
		m.entries[place] = e
		return gone, api.OK
	case len(m.entries) < m.room:
	case m.refuses || len(could) == 0:
		return gone, api.ErrFull
	default:
		gone = could[0]
		m.drop(gone.Key)
	}
	m.entries = append(m.entries, e)
	slices.SortFunc(m.entries, byKey)
	return gone, api.OK
}

func (m *model) touch(key string, at int64) api.Errno {
	place := m.place(key)
	if place < 0 {
		return api.ErrNone
	}
	if m.entries[place].Static {
		return api.ErrThere
	}
	m.entries[place].At = at
	return api.OK
}

// sweep takes out those of l that are told to go.
func (m *model) sweep(l []Entry[int], gone func(e Entry[int]) bool) []Entry[int] {
	var swept []Entry[int]
	for _, e := range l {
		if !e.Static && gone(e) {
			swept = append(swept, e)
			m.drop(e.Key)
		}
	}
	return swept
}

// P13.1 to P13.6: whatever is called, it is as the model tells it.
func TestAsModel(t *testing.T) {
	r := rand.New(rand.NewSource(135))
	for round := range 400 {
		m := &model{room: r.Intn(12), refuses: r.Intn(3) == 0}
		x := with(t, m.room, m.refuses)
		keys, times := 1+r.Intn(20), 1+r.Int63n(20)
		for range 120 {
			x = step(t, r, x, m, strconv.Itoa(r.Intn(keys)), r.Int63n(times))
			wantTable(t, x, m.room, m.entries...)
			if x.Len() > m.room {
				t.Error("more than there is room for:", x.Len())
			}
		}
		wantList(t, "till none ends any more", x.Due(times), ends(m.entries)...)
		if t.Failed() {
			t.Fatal("round", round)
		}
	}
}

// step calls the table and the model alike.
func step(t *testing.T, r *rand.Rand, x *Table[int], m *model, key string, at int64) *Table[int] {
	t.Helper()
	switch r.Intn(12) {
	case 0, 1, 2, 3, 4, 5:
		one := put(key, r.Intn(9), at)
		if r.Intn(5) == 0 {
			one = fixed(key, r.Intn(9))
		}
		gone, e := add(x, one)
		want, wanted := m.add(one)
		wantGone(t, "add", gone, e, want, wanted)
	case 6, 7:
		wantErr(t, "Touch", x.Touch(key, at), m.touch(key, at))
	case 8:
		want := api.ErrNone
		if m.place(key) >= 0 {
			want = api.OK
		}
		wantErr(t, "Drop", x.Drop(key), want)
		m.drop(key)
	case 9:
		at /= 4
		wantList(t, "Due", x.Due(at), m.sweep(ends(m.entries), func(e Entry[int]) bool { return e.At <= at })...)
	case 10:
		v := r.Intn(9)
		gone := func(e Entry[int]) bool { return e.Value == v }
		wantList(t, "Sweep", x.Sweep(gone), m.sweep(slices.Clone(m.entries), gone)...)
	case 11:
		return x.Copy()
	}
	return x
}

// The chapter's row of examples.
func TestExamples(t *testing.T) {
	x := with(t, 2, false, put("a", 1, 5), put("b", 2, 3))
	for _, step := range []struct {
		one, gone Entry[int]
		e         api.Errno
	}{
		{put("c", 3, 9), put("b", 2, 3), api.OK},
		{fixed("a", 1), Entry[int]{}, api.OK},
		{put("d", 4, 1), put("c", 3, 9), api.OK},
		{fixed("d", 4), Entry[int]{}, api.OK},
		{put("e", 5, 9), Entry[int]{}, api.ErrFull},
	} {
		gone, e := add(x, step.one)
		wantGone(t, "add "+step.one.Key, gone, e, step.gone, step.e)
	}
	wantTable(t, x, 2, fixed("a", 1), fixed("d", 4))
}
