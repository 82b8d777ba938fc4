package desc_test

import (
	"math"
	"math/rand"
	"slices"
	"strconv"
	"strings"
	"testing"

	"hatchway/api"
	"hatchway/kinds"
)

// own is the host's own helper of a kind, with that number and version.
func own(kind api.CoreKind, id, major, minor int) api.Helper {
	h, _ := kinds.Own(kind)
	h.Id, h.Major, h.Minor = id, major, minor
	return h
}

// theirs is a provider's own helper that answers a number of these bounds.
func theirs(id int, lo, hi int64, args ...api.Arg) api.Helper {
	return api.Helper{Id: id, Major: 2, Minor: 7, Args: args, Ret: api.Ret{Kind: api.RetScalar, Lo: lo, Hi: hi}}
}

// mixed is a table with something of everything; of parts that stand next to each other no two are the same.
func mixed() api.Table {
	maps := api.Arg{Kind: api.ArgMap, Maps: []api.MapKind{api.MapArray, api.MapHash, api.MapTrie}}
	scratch := theirs(9, 0, 0, api.Arg{Kind: api.ArgCtx}, api.Arg{Kind: api.ArgScalar, Lo: -70, Hi: 1 << 40}, api.Arg{Kind: api.ArgMemOut}, api.Arg{Kind: api.ArgSize, Hi: 100})
	scratch.Ret = api.Ret{Kind: api.RetScratch, Size: 300}
	value := theirs(12, 0, 0, api.Arg{Kind: api.ArgScalar, Lo: 3, Hi: 4}, maps, api.Arg{Kind: api.ArgKey}, api.Arg{Kind: api.ArgValue}, api.Arg{Kind: api.ArgOut})
	value.Ret = api.Ret{Kind: api.RetValue}
	return api.Table{
		Provider: "net.core_1",
		Types: []api.ProgType{
			{
				Name: "a", Ctx: 40, Lo: -9, Hi: 1 << 33,
				Fields: []api.Field{
					{Off: 0, Size: 8, Kind: api.FieldPacket}, {Off: 8, Size: 8, Kind: api.FieldEnd},
					{Off: 16, Size: 4, Kind: api.FieldScalar, Write: true}, {Off: 22, Size: 2, Kind: api.FieldScalar}, {Off: 35, Size: 1, Kind: api.FieldScalar, Write: true},
				},
				Needs: []api.Need{{Helper: 4, Major: 5, Minor: 6}, {Helper: 1 << 29, Major: 300, Minor: 0}},
			},
			{Name: "b", Ctx: 256, Lo: 5, Hi: 5},
			{Name: "b.c", Ctx: 8, Lo: math.MinInt64, Hi: math.MinInt64, Needs: []api.Need{{Helper: 1}}},
		},
		Helpers: []api.Helper{own(api.CoreLookup, 3, 1, 2), own(api.CoreTail, 3, 1, 4), scratch, value, theirs(13, -5, 6), own(api.CoreClock, 14, 8, 0)},
	}
}

func names(n int) []string {
	var all []string
	for i := range n {
		all = append(all, strings.Repeat("z", 21)+strconv.Itoa(100+i))
	}
	return all
}

// longest is a table of which no right one has more bytes.
func longest() api.Table {
	x := api.Table{Provider: strings.Repeat("_", 24)}
	for _, name := range names(16) {
		y := api.ProgType{Name: name, Ctx: 256, Lo: math.MinInt64, Hi: math.MaxInt64}
		for i := range 32 {
			y.Fields = append(y.Fields, api.Field{Off: 224 + i, Size: 1, Kind: api.FieldScalar, Write: true})
		}
		for i := range 64 {
			y.Needs = append(y.Needs, api.Need{Helper: 1<<30 - 63 + i, Major: 65535, Minor: 65535})
		}
		x.Types = append(x.Types, y)
	}
	word := api.Arg{Kind: api.ArgScalar, Lo: math.MinInt64, Hi: math.MaxInt64}
	for i := range 64 {
		h := theirs(1<<30-63+i, math.MinInt64, math.MaxInt64, word, word, word, word, word)
		h.Major, h.Minor = 65535, 65535
		x.Helpers = append(x.Helpers, h)
	}
	return x
}

// least is a table with one type and one helper, with the least of each part.
func least() api.Table {
	return api.Table{
		Provider: ".",
		Types:    []api.ProgType{{Name: "0", Ctx: 8, Fields: []api.Field{{Size: 1, Kind: api.FieldScalar}}, Needs: []api.Need{{Helper: 1}}}},
		Helpers:  []api.Helper{{Id: 1, Args: []api.Arg{{Kind: api.ArgScalar, Lo: math.MinInt64, Hi: math.MinInt64}}, Ret: api.Ret{Kind: api.RetScratch, Size: 1}}},
	}
}

// wrongTable is a table that is not right, and the error that tells it.
type wrongTable struct {
	table api.Table
	want  api.Errno
}

// wrongTables are of each error; some have several faults, of which the first one named is told.
func wrongTables() []wrongTable {
	var all []wrongTable
	turn := func(want api.Errno, changes ...func(x *api.Table)) {
		x := mixed()
		for _, change := range changes {
			change(&x)
		}
		all = append(all, wrongTable{x, want})
	}
	provider := func(x *api.Table) { x.Provider = "Net" }
	types := func(x *api.Table) { x.Types = append(x.Types, make([]api.ProgType, 17)...) }
	helpers := func(x *api.Table) { x.Helpers = append(x.Helpers, make([]api.Helper, 65)...) }
	name := func(x *api.Table) { x.Types[1].Name = "b c" }
	long := func(x *api.Table) { x.Types[1].Ctx = 257 }
	fields := func(x *api.Table) { x.Types[0].Fields = append(make([]api.Field, 33), x.Types[0].Fields...) }
	needs := func(x *api.Table) { x.Types[0].Needs = append(make([]api.Need, 65), x.Types[0].Needs...) }
	field := func(x *api.Table) { x.Types[0].Fields[2].Kind = 4 }
	end := func(x *api.Table) { x.Types[0].Fields = x.Types[0].Fields[1:] }
	need := func(x *api.Table) { x.Types[0].Needs[1].Minor = 65536 }
	bounds := func(x *api.Table) { x.Types[1].Lo = 6 }
	twice := func(x *api.Table) { x.Types[2].Name = "b" }
	id := func(x *api.Table) { x.Helpers[2].Id = 1<<30 + 1 }
	args := func(x *api.Table) { x.Helpers[2].Args = append(x.Helpers[2].Args, api.Arg{}, api.Arg{}) }
	kind := func(x *api.Table) { x.Helpers[3].Args[4].Kind = 10 }
	lists := func(x *api.Table) { x.Helpers[3].Args[1].Maps = []api.MapKind{2, 1} }
	maps := func(x *api.Table) { x.Helpers[3].Args[1].Maps[2] = api.MapRing }
	ret := func(x *api.Table) { x.Helpers[4].Ret.Hi = -6 }
	core := func(x *api.Table) { x.Helpers[0].Core = api.CoreDelete }
	number := func(x *api.Table) { x.Helpers[1].Minor = 2 }
	order := []struct { // as the chapter names them: type by type, then helper by helper
		change func(x *api.Table)
		want   api.Errno
	}{
		{provider, api.ErrArg}, {types, api.ErrLong}, {helpers, api.ErrLong},
		{fields, api.ErrLong}, {needs, api.ErrLong}, {field, api.ErrField}, {end, api.ErrField}, {need, api.ErrHelper},
		{name, api.ErrArg}, {long, api.ErrLong}, {bounds, api.ErrReturn}, {twice, api.ErrThere},
		{core, api.ErrKind}, {number, api.ErrThere}, {id, api.ErrHelper}, {args, api.ErrLong}, {lists, api.ErrType}, {maps, api.ErrMap}, {kind, api.ErrType}, {ret, api.ErrReturn},
	}
	for i, one := range order {
		turn(one.want, one.change)
		for _, other := range order[i+1:] {
			turn(one.want, other.change, one.change)
		}
	}
	return append(all, wrongTable{api.Table{}, api.ErrArg})
}

func drawnName(draw *rand.Rand) string {
	name := make([]byte, 1+draw.Intn(24))
	for i := range name {
		name[i] = "abcxyz059_."[draw.Intn(11)]
	}
	return string(name)
}

// drawnNumber is one from lo to hi; often it is near one of them.
func drawnNumber(draw *rand.Rand, lo, hi int) int {
	switch draw.Intn(6) {
	case 0:
		return lo
	case 1:
		return hi
	case 2:
		return min(hi, lo+draw.Intn(40))
	}
	return lo + draw.Intn(hi-lo+1)
}

func drawnBounds(draw *rand.Rand) (int64, int64) {
	one, other := int64(draw.Uint64())>>draw.Intn(64), int64(draw.Uint64())>>draw.Intn(64)
	return min(one, other), max(one, other)
}

func drawnFields(draw *rand.Rand, ctx int) []api.Field {
	var all []api.Field
	left := []api.FieldKind{api.FieldPacket, api.FieldEnd}
	if draw.Intn(2) == 0 {
		slices.Reverse(left)
	}
	for off := 0; len(all) < 32; {
		f := api.Field{Size: 1 << draw.Intn(4), Kind: api.FieldScalar, Write: draw.Intn(2) == 0}
		ends := len(left) > 0 && draw.Intn(3) == 0
		if ends {
			f = api.Field{Size: 8, Kind: left[0]}
		}
		f.Off = (off + f.Size - 1) / f.Size * f.Size
		if f.Off+f.Size > ctx {
			break
		}
		all = append(all, f)
		off = f.Off + f.Size + draw.Intn(3)
		if ends {
			left = left[1:]
		}
	}
	if len(left) > 0 { // none of both, if there is not one of each
		all = slices.DeleteFunc(all, func(f api.Field) bool { return f.Kind != api.FieldScalar })
	}
	return all
}

func drawnType(draw *rand.Rand, name string) api.ProgType {
	x := api.ProgType{Name: name, Ctx: drawnNumber(draw, 8, 256)}
	x.Fields = drawnFields(draw, x.Ctx)
	helper := 0
	for range draw.Intn(65) {
		helper += 1 + draw.Intn(1<<24)>>draw.Intn(24)
		x.Needs = append(x.Needs, api.Need{Helper: helper, Major: drawnNumber(draw, 0, 65535), Minor: drawnNumber(draw, 0, 65535)})
	}
	x.Lo, x.Hi = drawnBounds(draw)
	return x
}

func drawnArg(draw *rand.Rand) api.Arg {
	a := api.Arg{Kind: api.ArgKind(1 + draw.Intn(9))}
	switch a.Kind {
	case api.ArgScalar:
		a.Lo, a.Hi = drawnBounds(draw)
	case api.ArgSize:
		a.Hi = int64(drawnNumber(draw, 1, 1024))
	case api.ArgMap:
		for k := api.MapArray; k <= api.MapPrograms; k++ {
			if draw.Intn(3) == 0 {
				a.Maps = append(a.Maps, k)
			}
		}
	}
	return a
}

// drawnHelper draws till it is right.
func drawnHelper(draw *rand.Rand, id int) api.Helper {
	if draw.Intn(3) == 0 {
		return own(api.CoreKind(1+draw.Intn(10)), id, drawnNumber(draw, 0, 65535), drawnNumber(draw, 0, 65535))
	}
	for {
		h := api.Helper{Id: id, Major: drawnNumber(draw, 0, 65535), Minor: drawnNumber(draw, 0, 65535)}
		for range draw.Intn(6) {
			h.Args = append(h.Args, drawnArg(draw))
		}
		h.Ret.Kind = api.RetKind(1 + draw.Intn(3))
		switch h.Ret.Kind {
		case api.RetScalar:
			h.Ret.Lo, h.Ret.Hi = drawnBounds(draw)
		case api.RetScratch:
			h.Ret.Size = drawnNumber(draw, 1, 1024)
		}
		if kinds.Helper(h) == api.OK {
			return h
		}
	}
}

// drawnTable is a right one, of at most so many types, helpers.
func drawnTable(t *testing.T, draw *rand.Rand, types, helpers int) api.Table {
	t.Helper()
	x := api.Table{Provider: drawnName(draw)}
	var all []string
	for range draw.Intn(types + 1) {
		all = append(all, drawnName(draw))
	}
	slices.Sort(all)
	for _, name := range slices.Compact(all) {
		x.Types = append(x.Types, drawnType(draw, name))
	}
	id := 0
	for range draw.Intn(helpers + 1) {
		id += 1 + draw.Intn(1<<24)>>draw.Intn(24)
		x.Helpers = append(x.Helpers, drawnHelper(draw, id))
	}
	if e := kinds.Table(x); e != api.OK {
		t.Fatalf("a drawn table: %v: %s", e, told(x))
	}
	return x
}
