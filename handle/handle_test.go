package handle

import (
	"math"
	"math/rand"
	"slices"
	"strconv"
	"strings"
	"testing"

	"tithe/api"
)

// The chapter's factors, written out: a handle is kind * kindFactor + slot * slotFactor + generation.
const (
	kindFactor = 1099511627776
	slotFactor = 1048576
)

// triple is what a handle is made of.
type triple struct {
	kind, slot, gen int
}

// Parts that may be, the least and the greatest and some between them.
var (
	kinds = []int{1, 2, 3}
	slots = []int{0, 1, 2, 3, 9, 10, 99, 255, 256, 1023, 1024, 32767, 32768, 65534, 65535}
	gens  = []int{1, 2, 3, 7, 9, 10, 255, 256, 511, 512, 999, 1000, 1022, 1023}
)

// Parts that may not be: such too that would be others, or would run into their neighbours, if cut off or shifted.
var (
	wrongKinds = []int{math.MinInt, -1 << 40, -2, -1, 0, 4, 5, 8, 255, 257, 1 << 22, 1<<24 + 1, 1 << 40, math.MaxInt}
	wrongSlots = []int{math.MinInt, -65535, -2, -1, 65536, 65537, 131071, 1 << 20, 1<<20 + 3, 1 << 32, 1 << 43, 1 << 44, math.MaxInt}
	wrongGens  = []int{math.MinInt, -1023, -1, 0, 1024, 1025, 2047, 65535, 1 << 20, 1<<20 + 1, 1 << 32, 1 << 40, math.MaxInt}
)

// triples are triples that may be.
func triples() []triple {
	var l []triple
	for _, kind := range kinds {
		for _, slot := range slots {
			for _, gen := range gens {
				l = append(l, triple{kind, slot, gen})
			}
		}
	}
	return l
}

// handles are the handles of triples, in the triples' order.
func handles() []api.Handle {
	var l []api.Handle
	for _, c := range triples() {
		l = append(l, numberOf(c))
	}
	return l
}

// numberOf is a triple's number as the chapter says it.
func numberOf(c triple) api.Handle {
	return api.Handle(c.kind*kindFactor + c.slot*slotFactor + c.gen)
}

// wrongHandles are numbers but 0 that are no handle that may be: those beside the handles, and ones with a wrong part.
func wrongHandles() []api.Handle {
	l := []api.Handle{
		math.MinInt, math.MinInt + 1, -kindFactor - 1, -kindFactor, -slotFactor, -1, 1, 2, 3, 1023, slotFactor, slotFactor + 1,
		kindFactor - 1, kindFactor, 4 * kindFactor, 4*kindFactor + 1, 1 << 44, 1<<48 - 1, 1 << 48,
		1<<48 + kindFactor + 1, 1<<62 + kindFactor + 1, math.MinInt + kindFactor + 1, math.MaxInt - 1, math.MaxInt,
	}
	for _, kind := range []int{-3, -1, 0, 4, 5, 7, 255, 256, 257} {
		l = append(l, numberOf(triple{kind, 3, 7}))
	}
	for _, kind := range kinds {
		for _, slot := range slots {
			for _, gen := range []int{0, 1024, 1025, 2047, 2048, 65535, slotFactor - 1} {
				l = append(l, numberOf(triple{kind, slot, gen}))
			}
		}
		for _, slot := range []int{65536, 65537, 131071, slotFactor - 1} {
			l = append(l, numberOf(triple{kind, slot, 1}))
		}
	}
	for _, h := range handles() {
		l = append(l, -h)
	}
	return l
}

// made is a handle that must be there.
func made(t *testing.T, kind, slot, gen int) api.Handle {
	t.Helper()
	h, err := Make(kind, slot, gen)
	if err != nil {
		t.Fatalf("Make(%d, %d, %d): %v", kind, slot, gen, err)
	}
	return h
}

// checkParts looks at a handle from all sides.
func checkParts(t *testing.T, h api.Handle, c triple) {
	t.Helper()
	if !Valid(h) || Kind(h) != c.kind || Slot(h) != c.slot || Gen(h) != c.gen {
		t.Fatalf("%d of %v: %v, %d, %d, %d", h, c, Valid(h), Kind(h), Slot(h), Gen(h))
	}
}

// HA1: the numbers of the kinds, and the greatest slot.
func TestKinds(t *testing.T) {
	if KindNode != 1 || KindTask != 2 || KindSlack != 3 || MaxSlot != 65535 {
		t.Errorf("kinds %d, %d, %d, greatest slot %d", KindNode, KindTask, KindSlack, MaxSlot)
	}
}

// HA1: handles that are told.
func TestMake(t *testing.T) {
	for _, c := range []struct {
		kind, slot, gen int
		want            api.Handle
	}{
		{1, 3, 7, 1099514773511},
		{1, 0, 1, 1099511627777},
		{1, 0, 1023, 1099511628799},
		{1, 1, 1, 1099512676353},
		{1, 65535, 1, 1168230055937},
		{1, 65535, 1023, 1168230056959},
		{2, 0, 1, 2199023255553},
		{3, 0, 1, 3298534883329},
		{3, 65535, 1023, 3367253312511},
	} {
		if got, err := Make(c.kind, c.slot, c.gen); got != c.want || err != nil {
			t.Errorf("Make(%d, %d, %d) = %d, %v; want %d", c.kind, c.slot, c.gen, got, err, c.want)
		}
	}
}

// HA1: what may not be is not made, be one part wrong or several.
func TestMakeOfWrong(t *testing.T) {
	check := func(kind, slot, gen int) {
		if got, err := Make(kind, slot, gen); got != 0 || err != api.ErrArg {
			t.Errorf("Make(%d, %d, %d) = %d, %v", kind, slot, gen, got, err)
		}
	}
	for _, kind := range wrongKinds {
		check(kind, 0, 1)
		check(kind, 65535, 1023)
		for _, slot := range wrongSlots {
			check(kind, slot, 1)
		}
	}
	for _, slot := range wrongSlots {
		check(1, slot, 1)
		check(3, slot, 1023)
		for _, gen := range wrongGens {
			check(2, slot, gen)
			check(0, slot, gen)
		}
	}
	for _, gen := range wrongGens {
		check(1, 0, gen)
		check(3, 65535, gen)
	}
}

// HA1: the parts of what may be.
func TestParts(t *testing.T) {
	for _, c := range triples() {
		checkParts(t, numberOf(c), c)
	}
}

// HA1: what may not be has no parts, 0 neither.
func TestPartsOfWrong(t *testing.T) {
	for _, h := range append(wrongHandles(), 0) {
		if Valid(h) || Kind(h) != 0 || Slot(h) != -1 || Gen(h) != 0 {
			t.Errorf("%d: %v, %d, %d, %d", h, Valid(h), Kind(h), Slot(h), Gen(h))
		}
	}
}

// HA2: the next handle, and where there is none.
func TestNext(t *testing.T) {
	for _, c := range triples() {
		got, err := Next(numberOf(c))
		if c.gen == api.MaxGen {
			if got != 0 || err != api.ErrRoom {
				t.Errorf("Next of %v = %d, %v", c, got, err)
			}
			continue
		}
		if want := numberOf(triple{c.kind, c.slot, c.gen + 1}); got != want || err != nil {
			t.Errorf("Next of %v = %d, %v; want %d", c, got, err, want)
		}
	}
	for _, h := range append(wrongHandles(), 0) {
		if got, err := Next(h); got != 0 || err != api.ErrHandle {
			t.Errorf("Next(%d) = %d, %v", h, got, err)
		}
	}
}

// HA3: texts that are told.
func TestText(t *testing.T) {
	for h, want := range map[api.Handle]string{
		0:                                      "-",
		1099514773511:                          "n3.7",
		numberOf(triple{1, 0, 1}):              "n0.1",
		numberOf(triple{2, 0, 1}):              "t0.1",
		numberOf(triple{3, 0, 1}):              "s0.1",
		numberOf(triple{1, 10, 100}):           "n10.100",
		numberOf(triple{2, 65535, 10}):         "t65535.10",
		numberOf(triple{3, 65535, api.MaxGen}): "s65535.1023",
	} {
		if got := Text(h); got != want {
			t.Errorf("Text(%d) = %q; want %q", h, got, want)
		}
	}
	for _, c := range triples() {
		want := "?nts"[c.kind:c.kind+1] + strconv.Itoa(c.slot) + "." + strconv.Itoa(c.gen)
		if got := Text(numberOf(c)); got != want {
			t.Errorf("Text of %v = %q", c, got)
		}
	}
	for _, h := range wrongHandles() {
		if got := Text(h); got != "" {
			t.Errorf("Text(%d) = %q", h, got)
		}
	}
}

// HA3: texts that are read, the one of 0 too.
func TestRead(t *testing.T) {
	for s, want := range map[string]api.Handle{
		"-":           0,
		"n3.7":        1099514773511,
		"n0.1":        1099511627777,
		"t0.1":        2199023255553,
		"s65535.1023": 3367253312511,
	} {
		if got, err := Read(s); got != want || err != nil {
			t.Errorf("Read(%q) = %d, %v; want %d", s, got, err, want)
		}
	}
}

// HA3: what is the text of no handle is not read.
func TestReadOfNone(t *testing.T) {
	for _, s := range []string{
		"", " ", ".", "n", "t", "s", "n.", "n3", "n3.", "n.7", "3.7", "37", "n37", "0", "0.1", "1099514773511",
		"n03.7", "n3.07", "n00.1", "n003.7", "n3.007", "t00.1", "s0.01", "n000000000000000000003.7",
		"n3.0", "n3.1024", "n3.1025", "n3.10000", "n65536.1", "n65536.1023", "n100000.1", "t65536.1", "s65536.1", "s0.0", "t0.1024",
		"n-0.1", "n-1.1", "n0.-1", "n0.-0", "n+3.7", "n3.+7", "n3.7.", "n3..7", "n.3.7", "n3.7.7", "n3,7", "n3:7", "n3/7",
		"N3.7", "T0.1", "S0.1", "m3.7", "o3.7", "k3.7", "a3.7", "?3.7", "nn3.7", "n 3.7", "n3 .7", "n3. 7", " n3.7", "n3.7 ", "n3.7\n", "n3.7\x00",
		"n0x3.7", "n3.0x7", "n1_0.7", "n3.1_0", "n3e1.7", "n3.7e0", "n3.7.0", "3n.7", "n3.n7", "nt3.7",
		"--", "-0", "-1", "- ", " -", "-.", "-n3.7", "n-", "n-.-", "-\n", "-0.1", "-3.7",
		"n18446744073709551619.7", "n9223372036854775811.7", "n4294967299.7", "n3.18446744073709551623", "n3.4294967303",
		"n٣.7", "n３.7", "n3.٧", "ñ3.7", "\xff", "n\xff.7", "n3.\xff", "n½.7", "none", "nil",
		strings.Repeat("n", 32), strings.Repeat("-", 32), strings.Repeat("0", 32), "n3.7" + strings.Repeat(" ", 28), "n3." + strings.Repeat("9", 29),
	} {
		if got, err := Read(s); got != 0 || err != api.ErrForm {
			t.Errorf("Read(%q) = %d, %v", s, got, err)
		}
	}
}

// HA3: up to 32 bytes a text is looked at; a longer one is too long, whatever it is.
func TestReadOfLong(t *testing.T) {
	for _, c := range []struct {
		s    string
		want error
	}{
		{"n" + strings.Repeat("0", 29) + ".1", api.ErrForm},
		{"n" + strings.Repeat("0", 30) + ".1", api.ErrLong},
		{"n" + strings.Repeat("0", 31) + ".1", api.ErrLong},
		{strings.Repeat("\x00", 32), api.ErrForm},
		{strings.Repeat("\x00", 33), api.ErrLong},
		{strings.Repeat("é", 16), api.ErrForm},
		{strings.Repeat("é", 17), api.ErrLong},
		{"n3.7" + strings.Repeat("\n", 29), api.ErrLong},
		{strings.Repeat("-", 33), api.ErrLong},
		{strings.Repeat("9", 1<<20), api.ErrLong},
	} {
		if got, err := Read(c.s); got != 0 || err != c.want {
			t.Errorf("Read of %d bytes = %d, %v; want %v", len(c.s), got, err, c.want)
		}
	}
}

// HA4: bytes that are told.
func TestPack(t *testing.T) {
	for _, c := range []struct {
		l    []api.Handle
		want string
	}{
		{nil, ""},
		{[]api.Handle{}, ""},
		{[]api.Handle{1099514773511}, "\x01\x00\x00\x30\x00\x07"},
		{[]api.Handle{0}, "\x00\x00\x00\x00\x00\x00"},
		{[]api.Handle{0, 0}, "\x00\x00\x00\x00\x00\x00\x00\x00\x00\x00\x00\x00"},
		{[]api.Handle{numberOf(triple{2, 0x1234, 0x3ab})}, "\x02\x01\x23\x40\x03\xab"},
		{[]api.Handle{numberOf(triple{3, 65535, 1023})}, "\x03\x0f\xff\xf0\x03\xff"},
		{
			[]api.Handle{numberOf(triple{3, 0, 1}), 0, numberOf(triple{1, 3, 7}), numberOf(triple{1, 3, 7})},
			"\x03\x00\x00\x00\x00\x01\x00\x00\x00\x00\x00\x00\x01\x00\x00\x30\x00\x07\x01\x00\x00\x30\x00\x07",
		},
	} {
		if got, err := Pack(c.l); got != c.want || err != nil {
			t.Errorf("Pack(%v) = %q, %v; want %q", c.l, got, err, c.want)
		}
		if got, err := Unpack(c.want); !slices.Equal(got, c.l) || err != nil {
			t.Errorf("Unpack(%q) = %v, %v; want %v", c.want, got, err, c.l)
		}
	}
}

// HA4: one that can't be packed spoils the list, wherever it stands.
func TestPackOfWrong(t *testing.T) {
	fine := numberOf(triple{1, 3, 7})
	for _, h := range wrongHandles() {
		for _, l := range [][]api.Handle{{h}, {h, fine}, {fine, h}, {0, h, 0}, {fine, 0, fine, h}} {
			if got, err := Pack(l); got != "" || err != api.ErrHandle {
				t.Errorf("Pack(%v) = %q, %v", l, got, err)
			}
		}
	}
}

// HA4: 4,096 are packed, and no more; the length is told ahead of a wrong one.
func TestPackOfMany(t *testing.T) {
	fine := numberOf(triple{2, 513, 77})
	most := slices.Repeat([]api.Handle{fine}, 4096)
	s, err := Pack(most)
	if err != nil || s != strings.Repeat("\x02\x00\x20\x10\x00\x4d", 4096) {
		t.Fatalf("Pack of 4096: %d bytes, %v", len(s), err)
	}
	if got, err := Unpack(s); !slices.Equal(got, most) || err != nil {
		t.Errorf("Unpack of 4096: %d, %v", len(got), err)
	}
	most[4095] = 5
	if got, err := Pack(most); got != "" || err != api.ErrHandle {
		t.Errorf("Pack of 4096, the last one wrong: %d bytes, %v", len(got), err)
	}
	for _, h := range []api.Handle{fine, 0, 1, -1} {
		for _, n := range []int{4097, 5000, 1 << 16} {
			if got, err := Pack(slices.Repeat([]api.Handle{h}, n)); got != "" || err != api.ErrLong {
				t.Errorf("Pack of %d times %d: %d bytes, %v", n, h, len(got), err)
			}
		}
	}
}

// six is a number as its six lowest bytes.
func six(h api.Handle) string {
	n := uint64(h)
	return string([]byte{byte(n >> 40), byte(n >> 32), byte(n >> 24), byte(n >> 16), byte(n >> 8), byte(n)})
}

// HA4: six bytes that are no handle spoil the whole, wherever they stand.
func TestUnpackOfWrong(t *testing.T) {
	fine := six(numberOf(triple{1, 3, 7}))
	for _, h := range wrongHandles() {
		if h < 0 || h >= 1<<48 {
			continue
		}
		bad := six(h)
		for _, s := range []string{bad, bad + fine, fine + bad, six(0) + bad + six(0), fine + fine + bad + fine} {
			if got, err := Unpack(s); len(got) != 0 || err != api.ErrHandle {
				t.Errorf("Unpack(%q) = %v, %v", s, got, err)
			}
		}
	}
	if got, err := Unpack("\xff\xff\xff\xff\xff\xff"); len(got) != 0 || err != api.ErrHandle {
		t.Errorf("Unpack of the greatest bytes = %v, %v", got, err)
	}
}

// HA4: bytes whose number can't be divided by 6, told ahead of what they are; and too many of them, told ahead of that.
func TestUnpackOfForm(t *testing.T) {
	fine := strings.Repeat(six(numberOf(triple{3, 65535, 1023})), 5000)
	bad := strings.Repeat("\xff", len(fine))
	for _, s := range []string{fine, bad} {
		for _, c := range []struct {
			bytes int
			want  error
		}{
			{1, api.ErrForm}, {2, api.ErrForm}, {3, api.ErrForm}, {4, api.ErrForm}, {5, api.ErrForm}, {7, api.ErrForm}, {8, api.ErrForm},
			{9, api.ErrForm}, {11, api.ErrForm}, {13, api.ErrForm}, {24571, api.ErrForm}, {24573, api.ErrForm}, {24575, api.ErrForm},
			{24577, api.ErrLong}, {24578, api.ErrLong}, {24582, api.ErrLong}, {30000, api.ErrLong},
		} {
			if got, err := Unpack(s[:c.bytes]); len(got) != 0 || err != c.want {
				t.Errorf("Unpack of %d bytes = %v, %v; want %v", c.bytes, got, err, c.want)
			}
		}
	}
	if got, err := Unpack(fine[:24576]); len(got) != 4096 || err != nil {
		t.Errorf("Unpack of 24576 bytes: %d, %v", len(got), err)
	}
	if got, err := Unpack(bad[:24576]); len(got) != 0 || err != api.ErrHandle {
		t.Errorf("Unpack of 24576 wrong bytes: %d, %v", len(got), err)
	}
}

// HA5: Make and the parts are one to one, over all slots and all generations.
func TestOneToOne(t *testing.T) {
	check := func(c triple) {
		h := made(t, c.kind, c.slot, c.gen)
		if h != numberOf(c) {
			t.Fatalf("Make of %v = %d", c, h)
		}
		checkParts(t, h, c)
	}
	for _, kind := range kinds {
		for slot := 0; slot <= 65535; slot++ {
			for _, gen := range []int{1, 2, 512, 1022, 1023} {
				check(triple{kind, slot, gen})
			}
		}
		for gen := 1; gen <= 1023; gen++ {
			for _, slot := range slots {
				check(triple{kind, slot, gen})
			}
		}
	}
}

// HA5: a number has parts just where Make of them is that number again: around each edge, and at samples.
func TestNumbers(t *testing.T) {
	check := func(h api.Handle) {
		back, err := Make(Kind(h), Slot(h), Gen(h))
		if Valid(h) != (err == nil && back == h) || !Valid(h) && err == nil {
			t.Fatalf("%d: %v, of its parts %d, %v", h, Valid(h), back, err)
		}
		if want := plainly(h); Valid(h) != want {
			t.Fatalf("Valid(%d) = %v", h, Valid(h))
		}
	}
	for _, h := range append(handles(), wrongHandles()...) {
		for by := api.Handle(-3); by <= 3; by++ {
			check(h + by)
		}
	}
	r := rand.New(rand.NewSource(2))
	for range 200000 {
		check(api.Handle(r.Uint64()))
		check(api.Handle(r.Int63n(5 * kindFactor)))
		check(api.Handle(r.Int63n(4*kindFactor)) &^ (0xfc00))
	}
}

// plainly tells whether a number may be a handle by taking off what its parts count.
func plainly(h api.Handle) bool {
	for _, kind := range kinds {
		rest := h - api.Handle(kind)*kindFactor
		if rest >= 0 && rest/slotFactor <= 65535 && rest%slotFactor >= 1 && rest%slotFactor <= 1023 {
			return true
		}
	}
	return false
}

// HA5: handles are in the order of kind, slot and generation.
func TestOrder(t *testing.T) {
	l := triples()
	for i := 1; i < len(l); i++ {
		if a, b := made(t, l[i-1].kind, l[i-1].slot, l[i-1].gen), made(t, l[i].kind, l[i].slot, l[i].gen); a >= b {
			t.Errorf("%v is %d, %v is %d", l[i-1], a, l[i], b)
		}
	}
}

// HA5: what Text tells is read back, and no two texts are alike: as each is read as its own handle.
func TestReadOfText(t *testing.T) {
	check := func(h api.Handle) {
		if got, err := Read(Text(h)); got != h || err != nil {
			t.Fatalf("Read(%q) = %d, %v; want %d", Text(h), got, err, h)
		}
	}
	check(0)
	for _, kind := range kinds {
		for slot := 0; slot <= 65535; slot++ {
			check(made(t, kind, slot, 1+slot%1023))
		}
		for gen := 1; gen <= 1023; gen++ {
			check(made(t, kind, 65535-gen, gen))
		}
	}
}

// HA5: what is packed is unpacked: lists of all lengths, with 0 in them, in no order and over again.
func TestUnpackOfPack(t *testing.T) {
	all := append(handles(), 0)
	r := rand.New(rand.NewSource(4))
	for n := 0; n <= 4096; n += 1 + n/9 {
		var l []api.Handle
		for range n {
			l = append(l, all[r.Intn(len(all))])
		}
		s, err := Pack(l)
		if len(s) != 6*n || err != nil {
			t.Fatalf("Pack of %d: %d bytes, %v", n, len(s), err)
		}
		if got, err := Unpack(s); !slices.Equal(got, l) || err != nil {
			t.Fatalf("Unpack of %d: %v, %v", n, got, err)
		}
	}
}

// HA5: Next is above its handle and below all of the next slot, and from generation 1 on it can be asked MaxGen - 1 times.
func TestNextAgain(t *testing.T) {
	for _, kind := range kinds {
		for _, slot := range slots {
			h, times := made(t, kind, slot, 1), 0
			for {
				next, err := Next(h)
				if err != nil {
					if err != api.ErrRoom {
						t.Errorf("Next(%d): %v", h, err)
					}
					break
				}
				if next <= h || slot < 65535 && next >= made(t, kind, slot+1, 1) {
					t.Fatalf("Next(%d) = %d", h, next)
				}
				checkParts(t, next, triple{kind, slot, times + 2})
				h, times = next, times+1
			}
			if times != 1022 {
				t.Errorf("kind %d, slot %d: %d times", kind, slot, times)
			}
		}
	}
}

// P8 for Pack: the list is not changed, nor what lies behind it.
func TestListStays(t *testing.T) {
	whole := handles()
	for _, n := range []int{0, 1, 2, 100, len(whole) - 1} {
		if _, err := Pack(whole[:n]); err != nil {
			t.Errorf("Pack of %d: %v", n, err)
		}
	}
	if !slices.Equal(whole, handles()) {
		t.Error("the list was changed")
	}
}

// P8 for Unpack: each answer is memory of its own, its spare room too.
func TestAnswersAreNew(t *testing.T) {
	s, err := Pack(handles())
	if err != nil {
		t.Fatal(err)
	}
	first, _ := Unpack(s)
	second, _ := Unpack(s)
	clear(first[:cap(first)])
	third, _ := Unpack(s)
	if !slices.Equal(second, handles()) || !slices.Equal(third, handles()) {
		t.Error("answers share memory")
	}
}

// P7: no text and no bytes make a call panic, and what is answered can be told again.
func FuzzTexts(f *testing.F) {
	for _, s := range []string{"", "-", "n3.7", "t0.1", "s65535.1023", "n03.7", "\x01\x00\x00\x30\x00\x07", "\x00\x00\x00\x00\x00\x00"} {
		f.Add(s)
	}
	f.Fuzz(func(t *testing.T, s string) {
		if h, err := Read(s); err == nil && Text(h) != s || err != nil && h != 0 {
			t.Errorf("Read(%q) = %d, %v", s, h, err)
		}
		l, err := Unpack(s)
		if err != nil {
			if len(l) != 0 {
				t.Errorf("Unpack(%q) = %v, %v", s, l, err)
			}
			return
		}
		if back, err := Pack(l); back != s || err != nil {
			t.Errorf("Pack of Unpack(%q) = %q, %v", s, back, err)
		}
	})
}
