package kinds_test

import (
	"math"
	"strings"
	"testing"

	"hatchway/api"
	"hatchway/kinds"
)

func checkType(t *testing.T, x api.ProgType) api.Errno {
	t.Helper()
	got, want := kinds.Type(x), wantType(x)
	if got != want {
		t.Errorf("Type(%+v) = %v, want %v", x, got, want)
	}
	return got
}

// packetType is a right type with all that a type may have.
func packetType() api.ProgType {
	return api.ProgType{
		Name: "packet", Ctx: 32,
		Fields: []api.Field{{Off: 0, Size: 8, Kind: api.FieldPacket}, {Off: 8, Size: 8, Kind: api.FieldEnd}, {Off: 16, Size: 4, Kind: api.FieldScalar, Write: true}, {Off: 20, Size: 1, Kind: api.FieldScalar}, {Off: 22, Size: 2, Kind: api.FieldScalar}},
		Needs:  []api.Need{{Helper: 1, Major: 1}, {Helper: 2, Major: 0, Minor: 3}, {Helper: 1 << 30, Major: 65535, Minor: 65535}},
		Lo:     -1, Hi: 2,
	}
}

// turned is that type, with something changed.
func turned(turn func(x *api.ProgType)) api.ProgType {
	x := packetType()
	turn(&x)
	return x
}

func TestP6_2Examples(t *testing.T) {
	x := api.ProgType{Name: "t", Ctx: 8, Lo: 0, Hi: 1}
	if e := kinds.Type(x); e != api.OK {
		t.Error(e)
	}
	x.Fields = []api.Field{{Off: 4, Size: 8, Kind: api.FieldScalar}}
	if e := kinds.Type(x); e != api.ErrField {
		t.Error(e)
	}
	if e := kinds.Type(packetType()); e != api.OK {
		t.Error(e)
	}
}

func TestP6_2NamesAndBounds(t *testing.T) {
	for _, name := range []string{"", "a", ".", "_", "A", "a b", strings.Repeat("a", 24), strings.Repeat("a", 25), "\u00e4", "a\x00"} {
		checkType(t, turned(func(x *api.ProgType) { x.Name = name }))
	}
	ends := []int64{math.MinInt64, math.MinInt64 + 1, -2, -1, 0, 1, 2, math.MaxInt64 - 1, math.MaxInt64}
	for _, lo := range ends {
		for _, hi := range ends {
			checkType(t, turned(func(x *api.ProgType) { x.Lo, x.Hi = lo, hi }))
		}
	}
}

func TestP6_2Contexts(t *testing.T) {
	right := 0
	for ctx := -300; ctx <= 600; ctx++ {
		if checkType(t, api.ProgType{Name: "a", Ctx: ctx}) == api.OK {
			right++
		}
		checkType(t, turned(func(x *api.ProgType) { x.Ctx = ctx }))
	}
	if right != 256-8+1 {
		t.Errorf("%d right contexts", right)
	}
	for _, ctx := range outside() {
		if e := checkType(t, turned(func(x *api.ProgType) { x.Ctx = ctx })); e != api.ErrLong {
			t.Errorf("Ctx %d: %v", ctx, e)
		}
	}
}

// bytesFrom is a row of so many fields of one byte.
func bytesFrom(n int) []api.Field {
	var all []api.Field
	for i := range n {
		all = append(all, api.Field{Off: i, Size: 1, Kind: api.FieldScalar, Write: i%2 == 0})
	}
	return all
}

// needsFrom is a row of so many needs.
func needsFrom(n int) []api.Need {
	var all []api.Need
	for i := range n {
		all = append(all, api.Need{Helper: 3*i + 1, Major: i % 3, Minor: i % 5})
	}
	return all
}

func TestP6_2Lengths(t *testing.T) {
	for _, c := range []struct {
		fields, needs int
		want          api.Errno
	}{{0, 0, api.OK}, {31, 63, api.OK}, {32, 64, api.OK}, {33, 0, api.ErrLong}, {0, 65, api.ErrLong}, {32, 65, api.ErrLong}, {33, 64, api.ErrLong}, {200, 0, api.ErrLong}, {0, 5000, api.ErrLong}} {
		x := api.ProgType{Name: "a", Ctx: 256, Fields: bytesFrom(c.fields), Needs: needsFrom(c.needs)}
		if e := checkType(t, x); e != c.want {
			t.Errorf("%d fields, %d needs: %v, want %v", c.fields, c.needs, e, c.want)
		}
	}
}

// fieldNumbers are what a field's Off, its Size may be, and may not.
func fieldNumbers() []int {
	all := outside()
	for n := -9; n <= 40; n++ {
		all = append(all, n)
	}
	return append(all, 247, 248, 249, 252, 254, 255, 256, 257, 264)
}

func TestP6_2OneField(t *testing.T) {
	for _, ctx := range []int{8, 9, 10, 12, 15, 16, 17, 24, 255, 256} {
		for _, off := range fieldNumbers() {
			for _, size := range fieldNumbers() {
				checkType(t, api.ProgType{Name: "a", Ctx: ctx, Fields: []api.Field{{Off: off, Size: size, Kind: api.FieldScalar}}})
			}
		}
	}
}

// Of each Kind, Size, Write, as the third one behind a packet's two, or as one of these.
func TestP6_2FieldKinds(t *testing.T) {
	for kind := range 256 {
		for _, size := range []int{0, 1, 2, 4, 8, 16} {
			for _, write := range []bool{false, true} {
				f := api.Field{Size: size, Kind: api.FieldKind(kind), Write: write}
				for at := range 3 {
					x := api.ProgType{Name: "a", Ctx: 24, Fields: []api.Field{{Off: 0, Size: 8, Kind: api.FieldEnd}, {Off: 8, Size: 8, Kind: api.FieldPacket}, {Off: 16, Size: 8, Kind: api.FieldScalar}}}
					f.Off = 8 * at
					x.Fields[at] = f
					checkType(t, x)
				}
				f.Off = 0
				checkType(t, api.ProgType{Name: "a", Ctx: 8, Fields: []api.Field{f}})
			}
		}
	}
}

// Fields that touch, overlap, stand the wrong way round, one in the other.
func TestP6_2TwoFields(t *testing.T) {
	right := 0
	for _, ctx := range []int{8, 15, 16, 17} {
		var all []api.Field
		for off := range 18 {
			for _, size := range []int{1, 2, 4, 8} {
				for kind := range 4 {
					all = append(all, api.Field{Off: off, Size: size, Kind: api.FieldKind(kind)})
				}
			}
		}
		for _, f := range all {
			for _, g := range all {
				if checkType(t, api.ProgType{Name: "a", Ctx: ctx, Fields: []api.Field{f, g}}) == api.OK {
					right++
				}
			}
		}
	}
	if right == 0 {
		t.Error("none is right")
	}
}

// Only next neighbours may seem to rise: the third begins behind the first, not behind the second.
func TestP6_2ThreeFields(t *testing.T) {
	var all []api.Field
	for off := range 9 {
		for _, size := range []int{1, 2, 4, 8} {
			all = append(all, api.Field{Off: off, Size: size, Kind: api.FieldScalar})
		}
	}
	for _, f := range all {
		for _, g := range all {
			for _, h := range all {
				checkType(t, api.ProgType{Name: "a", Ctx: 9, Fields: []api.Field{f, g, h}})
			}
		}
	}
}

// One packet and one end, in either order, or none of both: each row of up to five fields of the three kinds.
func TestP6_2PacketsAndEnds(t *testing.T) {
	right := 0
	for n, rows := 0, 1; n <= 5; n, rows = n+1, rows*3 {
		for row := range rows {
			x := api.ProgType{Name: "a", Ctx: 40}
			for at, left := 0, row; at < n; at, left = at+1, left/3 {
				x.Fields = append(x.Fields, api.Field{Off: 8 * at, Size: 8, Kind: api.FieldKind(1 + left%3)})
			}
			if checkType(t, x) == api.OK {
				right++
			}
		}
	}
	if right != 6+2+6+12+20 { // none of both: one each of 0 to 5 fields; one of each: n (n - 1) of n
		t.Errorf("%d are right", right)
	}
}

func TestP6_2Needs(t *testing.T) {
	numbers := append(outside(), 0, 1, 2, 3, 1<<30-1, 1<<30, 1<<30+1)
	versions := append(outside(), 0, 1, 2, 65534, 65535, 65536)
	for _, helper := range numbers {
		for at := range 3 {
			x := turned(func(x *api.ProgType) { x.Needs[at].Helper = helper })
			checkType(t, x)
		}
		for _, other := range numbers {
			checkType(t, api.ProgType{Name: "a", Ctx: 8, Needs: []api.Need{{Helper: helper}, {Helper: other}}})
			checkType(t, api.ProgType{Name: "a", Ctx: 8, Needs: []api.Need{{Helper: helper, Major: 1}, {Helper: other, Major: 2}}})
			checkType(t, api.ProgType{Name: "a", Ctx: 8, Needs: []api.Need{{Helper: 1}, {Helper: helper}, {Helper: other}}})
		}
	}
	for _, major := range versions {
		for _, minor := range versions {
			for at := range 3 {
				checkType(t, turned(func(x *api.ProgType) { x.Needs[at].Major, x.Needs[at].Minor = major, minor }))
			}
		}
	}
}

// Of each set of faults the first one named is told.
func TestP6_2FirstError(t *testing.T) {
	faults := []struct {
		turn func(x *api.ProgType)
		want api.Errno
	}{
		{func(x *api.ProgType) { x.Name = "N" }, api.ErrArg},
		{func(x *api.ProgType) { x.Ctx = 257 }, api.ErrLong},
		{func(x *api.ProgType) { x.Needs = append(needsFrom(65), x.Needs...) }, api.ErrLong},
		{func(x *api.ProgType) { x.Fields = append(x.Fields, bytesFrom(33)...) }, api.ErrLong},
		{func(x *api.ProgType) { x.Fields[1].Write = true }, api.ErrField},
		{func(x *api.ProgType) { x.Fields = x.Fields[1:] }, api.ErrField},
		{func(x *api.ProgType) { x.Needs[1].Helper = 0 }, api.ErrHelper},
		{func(x *api.ProgType) { x.Needs[2].Minor = 65536 }, api.ErrHelper},
		{func(x *api.ProgType) { x.Lo = 3 }, api.ErrReturn},
	}
	for set := range 1 << len(faults) {
		want := api.OK
		x := packetType()
		for i := len(faults) - 1; i >= 0; i-- { // the last ones first: the others lengthen and shorten rows
			if set>>i&1 != 0 {
				faults[i].turn(&x)
				want = faults[i].want
			}
		}
		if e := checkType(t, x); e != want {
			t.Errorf("faults %b: %v, want %v", set, e, want)
		}
	}
}
