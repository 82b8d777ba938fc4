package kinds_test

import (
	"math"
	"math/rand"
	"reflect"
	"slices"
	"strconv"
	"strings"
	"testing"

	"hatchway/api"
	"hatchway/kinds"
)

func checkTable(t *testing.T, x api.Table) api.Errno {
	t.Helper()
	got, want := kinds.Table(x), wantTable(x)
	if got != want {
		t.Errorf("Table(%+v) = %v, want %v", x, got, want)
	}
	return got
}

// typesNamed are right types of these names.
func typesNamed(names ...string) []api.ProgType {
	var all []api.ProgType
	for _, name := range names {
		all = append(all, api.ProgType{Name: name, Ctx: 8})
	}
	return all
}

func numberedNames(n int) []string {
	var all []string
	for i := range n {
		all = append(all, "t"+strconv.Itoa(100+i))
	}
	return all
}

// fullTable is a right table with as much as there may be.
func fullTable() api.Table {
	x := api.Table{Provider: "full"}
	for i, name := range numberedNames(16) {
		y := packetType()
		y.Name, y.Lo = name, -int64(i)
		x.Types = append(x.Types, y)
	}
	for i := range 64 {
		h, _ := kinds.Own(api.CoreKind(1 + i%10))
		h.Id, h.Major, h.Minor = 1+i/4, i/2%2, 3+i%2
		x.Helpers = append(x.Helpers, h)
	}
	return x
}

func TestP6_4Providers(t *testing.T) {
	for _, name := range []string{"", "a", "core", "A", "a.b_9", "a b", strings.Repeat("a", 24), strings.Repeat("a", 25), "\u00e4"} {
		checkTable(t, api.Table{Provider: name})
		x := fullTable()
		x.Provider = name
		checkTable(t, x)
	}
	if e := kinds.Table(api.Table{Provider: "a"}); e != api.OK {
		t.Errorf("without types and helpers: %v", e)
	}
	if e := kinds.Table(fullTable()); e != api.OK {
		t.Errorf("full: %v", e)
	}
}

func TestP6_4HowMany(t *testing.T) {
	for _, c := range []struct {
		types, helpers int
		want           api.Errno
	}{{0, 0, api.OK}, {15, 63, api.OK}, {16, 64, api.OK}, {17, 0, api.ErrLong}, {0, 65, api.ErrLong}, {17, 64, api.ErrLong}, {16, 65, api.ErrLong}, {300, 3000, api.ErrLong}} {
		x := api.Table{Provider: "p", Types: typesNamed(numberedNames(c.types)...)}
		for i := range c.helpers {
			x.Helpers = append(x.Helpers, numbered(1+i, 0, 0))
		}
		if e := checkTable(t, x); e != c.want {
			t.Errorf("%d types, %d helpers: %v, want %v", c.types, c.helpers, e, c.want)
		}
		checkTable(t, api.Table{Provider: "p", Types: make([]api.ProgType, c.types), Helpers: make([]api.Helper, c.helpers)})
	}
}

// Names that rise, are equal, fall; a name that another one begins with is below it.
func TestP6_4TypesRise(t *testing.T) {
	names := []string{".", "..", "0", "9", "_", "a", "a.", "a.b", "a0", "a_", "aa", "ab", "b", "z", strings.Repeat("z", 23), strings.Repeat("z", 24)}
	if e := checkTable(t, api.Table{Provider: "p", Types: typesNamed(names...)}); e != api.OK {
		t.Errorf("all: %v", e)
	}
	seen := map[api.Errno]int{}
	rowsOf(append(names, ""), 3, func(row []string) {
		seen[checkTable(t, api.Table{Provider: "p", Types: typesNamed(row...)})]++
	})
	if seen[api.OK] != 1+16+16*15/2+16*15*14/6 {
		t.Errorf("seen: %v", seen)
	}
}

// By Id, then Major, then Minor.
func TestP6_4HelpersRise(t *testing.T) {
	var few []api.Helper
	rowsOf([]int{0, 1, 2}, 3, func(row []int) {
		if len(row) == 3 {
			few = append(few, numbered(1+row[0], row[1], row[2]))
		}
	})
	few = append(few, numbered(1<<30, 65535, 65535), numbered(1<<30, 65535, 65534), numbered(1, 65535, 0), numbered(0, 0, 0), numbered(1, 0, 65536))
	seen := map[api.Errno]int{}
	rowsOf(few, 3, func(row []api.Helper) {
		seen[checkTable(t, api.Table{Provider: "p", Helpers: row})]++
	})
	if seen[api.OK] != 1+30+30*29/2+30*29*28/6 || seen[api.ErrThere] == 0 || seen[api.ErrHelper] == 0 {
		t.Errorf("seen: %v", seen)
	}
}

// What a helper is but its number and version changes nothing of the order.
func TestP6_4HelpersAlike(t *testing.T) {
	for one := range 11 {
		for other := range 11 {
			row := make([]api.Helper, 2)
			for i, kind := range []int{one, other} {
				row[i], _ = kinds.Own(api.CoreKind(kind))
				if kind == 0 {
					row[i] = withArgs(argOf(api.ArgCtx))
				}
				row[i].Id, row[i].Major, row[i].Minor = 3, 4, 5
			}
			if e := checkTable(t, api.Table{Provider: "p", Helpers: row}); e != api.ErrThere {
				t.Errorf("%d and %d of one number and version: %v", one, other, e)
			}
		}
	}
}

// wrongTypes, wrongHelpers are one of each error, with a name, a number, that may stand anywhere.
func wrongTypes(name string) []api.ProgType {
	return []api.ProgType{
		{Name: name + "!", Ctx: 8},
		{Name: name, Ctx: 7},
		{Name: name, Ctx: 8, Fields: []api.Field{{Size: 3, Kind: 1}}},
		{Name: name, Ctx: 8, Needs: []api.Need{{}}},
		{Name: name, Ctx: 8, Lo: 1},
	}
}

func wrongHelpers(id int) []api.Helper {
	right := api.Ret{Kind: api.RetScalar}
	return []api.Helper{
		{Id: -id, Ret: right},
		{Id: id, Args: make([]api.Arg, 6), Ret: right},
		{Id: id, Args: make([]api.Arg, 1), Ret: right},
		{Id: id, Args: []api.Arg{{Kind: api.ArgKey}}, Ret: right},
		{Id: id},
		{Id: id, Core: api.CoreTail, Ret: right},
	}
}

// Each error of a type, of a helper, at each place; and with a neighbour that is not above the one ahead.
func TestP6_4EachElement(t *testing.T) {
	names := []string{"b", "d", "f", "h"}
	for at := range names {
		for _, wrong := range slices.Concat(wrongTypes(names[at]), wrongTypes("a"), wrongTypes("z"), typesNamed("a", "b", "d", "z")) {
			x := api.Table{Provider: "p", Types: typesNamed(names...), Helpers: wrongHelpers(5)[:1]}
			x.Types[at] = wrong
			checkTable(t, x)
			x.Helpers = nil
			checkTable(t, x)
		}
	}
	ids := []int{2, 4, 6, 8}
	for at := range ids {
		for _, wrong := range slices.Concat(wrongHelpers(ids[at]), wrongHelpers(1), wrongHelpers(9), []api.Helper{numbered(1, 0, 0), numbered(4, 0, 0), numbered(9, 0, 0)}) {
			x := api.Table{Provider: "p", Types: typesNamed("b", "d")}
			for _, id := range ids {
				x.Helpers = append(x.Helpers, numbered(id, 0, 0))
			}
			x.Helpers[at] = wrong
			checkTable(t, x)
		}
	}
}

// Of two faults the one of the element ahead is told, and a type's ahead of each helper's.
func TestP6_4FirstError(t *testing.T) {
	types := slices.Concat(typesNamed("b", "d"), wrongTypes("c"), wrongTypes("e"))
	helpers := slices.Concat([]api.Helper{numbered(1, 0, 0), numbered(3, 0, 0)}, wrongHelpers(2), wrongHelpers(4))
	rowsOf(types, 2, func(row []api.ProgType) {
		rowsOf(helpers, 2, func(others []api.Helper) {
			for _, provider := range []string{"p", "P"} {
				checkTable(t, api.Table{Provider: provider, Types: row, Helpers: others})
			}
		})
	})
	for _, c := range []struct {
		table api.Table
		want  api.Errno
	}{
		{api.Table{Types: make([]api.ProgType, 17)}, api.ErrArg},
		{api.Table{Provider: "p", Types: make([]api.ProgType, 17), Helpers: make([]api.Helper, 1)}, api.ErrLong},
		{api.Table{Provider: "p", Types: wrongTypes("b"), Helpers: make([]api.Helper, 65)}, api.ErrLong},
		{api.Table{Provider: "p", Types: append(typesNamed("b", "b"), wrongTypes("c")[4]), Helpers: wrongHelpers(1)}, api.ErrThere},
		{api.Table{Provider: "p", Types: append(typesNamed("b"), wrongTypes("b")[4]), Helpers: wrongHelpers(1)}, api.ErrReturn},
		{api.Table{Provider: "p", Types: typesNamed("b", "a"), Helpers: wrongHelpers(1)}, api.ErrThere},
		{api.Table{Provider: "p", Helpers: []api.Helper{numbered(2, 0, 0), wrongHelpers(2)[4]}}, api.ErrReturn},
		{api.Table{Provider: "p", Helpers: []api.Helper{numbered(2, 0, 0), numbered(2, 0, 0), wrongHelpers(2)[4]}}, api.ErrThere},
	} {
		if e := checkTable(t, c.table); e != c.want {
			t.Errorf("%+v: %v, want %v", c.table, e, c.want)
		}
	}
}

// The host's own helpers, given any number and version, are right.
func TestP6_6OwnIsRight(t *testing.T) {
	for kind := api.CoreLookup; kind <= api.CoreClock; kind++ {
		for _, id := range []int{1, 2, 1000, 1 << 30} {
			for _, version := range []int{0, 1, 65535} {
				h, ok := kinds.Own(kind)
				h.Id, h.Major, h.Minor = id, version, 65535-version
				if e := kinds.Helper(h); !ok || e != api.OK {
					t.Errorf("%d with the number %d: %v", kind, id, e)
				}
			}
		}
	}
}

// drawnTable is a right one.
func drawnTable(draw *rand.Rand) api.Table {
	x := api.Table{Provider: "p" + strconv.Itoa(draw.Intn(1000))}
	names := numberedNames(200)
	for _, at := range drawnPlaces(draw, 200, 16) {
		y := api.ProgType{Name: names[at], Ctx: 8 + draw.Intn(249), Lo: -draw.Int63n(5), Hi: draw.Int63n(5)}
		y.Fields = slices.DeleteFunc(bytesFrom(32), func(f api.Field) bool { return f.Off >= y.Ctx || draw.Intn(2) == 0 })
		y.Needs = slices.DeleteFunc(needsFrom(64), func(api.Need) bool { return draw.Intn(2) == 0 })
		x.Types = append(x.Types, y)
	}
	for _, at := range drawnPlaces(draw, 300, 64) {
		h, _ := kinds.Own(api.CoreKind(1 + draw.Intn(10)))
		if draw.Intn(2) == 0 {
			h = withArgs(argOf(api.ArgCtx), mapOf(kindSets()[draw.Intn(255)]...), scalarOf(-3, draw.Int63()))
		}
		h.Id, h.Major, h.Minor = 1+at/9, at/3%3, at%3
		x.Helpers = append(x.Helpers, h)
	}
	return x
}

// drawnPlaces are at most so many numbers below n, rising.
func drawnPlaces(draw *rand.Rand, n, most int) []int {
	places := draw.Perm(n)[:draw.Intn(most+1)]
	slices.Sort(places)
	return places
}

// leftOut is a row with some of its elements left out.
func leftOut[T any](draw *rand.Rand, row []T) []T {
	return slices.DeleteFunc(slices.Clone(row), func(T) bool { return draw.Intn(3) == 0 })
}

func TestP6_6LeftOut(t *testing.T) {
	draw := rand.New(rand.NewSource(6))
	for range 300 {
		x := drawnTable(draw)
		if e := checkTable(t, x); e != api.OK {
			t.Fatalf("a drawn table: %v", e)
		}
		for range 10 {
			x.Types, x.Helpers = leftOut(draw, x.Types), leftOut(draw, x.Helpers)
			if e := checkTable(t, x); e != api.OK {
				t.Fatalf("with some left out: %v", e)
			}
		}
	}
}

// changed is a table with one of its numbers, of its elements, changed.
func changed(draw *rand.Rand, x api.Table) api.Table {
	x.Types, x.Helpers = slices.Clone(x.Types), slices.Clone(x.Helpers)
	if len(x.Types) > 0 && draw.Intn(2) == 0 {
		y := &x.Types[draw.Intn(len(x.Types))]
		switch draw.Intn(4) {
		case 0:
			y.Name = numberedNames(200)[draw.Intn(200)]
		case 1:
			y.Ctx = draw.Intn(300)
		case 2:
			y.Fields = append(leftOut(draw, y.Fields), api.Field{Off: draw.Intn(40), Size: 1 << draw.Intn(4), Kind: api.FieldKind(draw.Intn(4))})
		case 3:
			y.Needs = append(leftOut(draw, y.Needs), api.Need{Helper: draw.Intn(300)})
		}
		return x
	}
	if len(x.Helpers) > 0 {
		h := &x.Helpers[draw.Intn(len(x.Helpers))]
		switch draw.Intn(4) {
		case 0:
			h.Id = draw.Intn(40)
		case 1:
			h.Args = leftOut(draw, h.Args)
		case 2:
			h.Args = append(slices.Clone(h.Args), api.Arg{Kind: api.ArgKind(draw.Intn(10))})
		case 3:
			h.Ret = api.Ret{Kind: api.RetKind(draw.Intn(4)), Lo: -draw.Int63n(2), Hi: draw.Int63n(2), Size: draw.Intn(2)}
		}
	}
	return x
}

func TestP6_4ChangedTables(t *testing.T) {
	draw := rand.New(rand.NewSource(4))
	seen := map[api.Errno]int{}
	for range 2000 {
		x := drawnTable(draw)
		for range 3 {
			x = changed(draw, x)
			seen[checkTable(t, x)]++
		}
	}
	for _, e := range []api.Errno{api.OK, api.ErrLong, api.ErrField, api.ErrHelper, api.ErrType, api.ErrMap, api.ErrReturn, api.ErrKind, api.ErrThere} {
		if seen[e] == 0 {
			t.Errorf("never seen: %v", e)
		}
	}
}

// copied is a table in other memory.
func copied(x api.Table) api.Table {
	x.Types, x.Helpers = slices.Clone(x.Types), slices.Clone(x.Helpers)
	for i := range x.Types {
		x.Types[i].Fields, x.Types[i].Needs = slices.Clone(x.Types[i].Fields), slices.Clone(x.Types[i].Needs)
	}
	for i := range x.Helpers {
		x.Helpers[i].Args = slices.Clone(x.Helpers[i].Args)
		for j := range x.Helpers[i].Args {
			x.Helpers[i].Args[j].Maps = slices.Clone(x.Helpers[i].Args[j].Maps)
		}
	}
	return x
}

// No argument is changed, and one thing is answered alike each time.
func TestP6_4ArgumentsStay(t *testing.T) {
	draw := rand.New(rand.NewSource(5))
	for range 300 {
		x := changed(draw, drawnTable(draw))
		before := copied(x)
		one := kinds.Table(x)
		for _, y := range x.Types {
			kinds.Type(y)
			kinds.Field(y, 3, 1)
		}
		for _, h := range x.Helpers {
			kinds.Helper(h)
		}
		if other := kinds.Table(x); other != one || !reflect.DeepEqual(x, before) {
			t.Fatalf("%v, then %v; or the table is another one", one, other)
		}
	}
}

// Lists without elements and nil ones are one.
func TestP6_4EmptyLists(t *testing.T) {
	for _, x := range []api.Table{
		{Provider: "p", Types: []api.ProgType{}, Helpers: []api.Helper{}},
		{Provider: "p", Types: []api.ProgType{{Name: "a", Ctx: 8, Fields: []api.Field{}, Needs: []api.Need{}}}},
		{Provider: "p", Helpers: []api.Helper{{Id: 1, Args: []api.Arg{}, Ret: api.Ret{Kind: api.RetScalar}}}},
		{Provider: "p", Helpers: []api.Helper{{Id: 1, Core: api.CoreClock, Args: []api.Arg{}, Ret: api.Ret{Kind: api.RetScalar, Lo: math.MinInt64, Hi: math.MaxInt64}}}},
		{Provider: "p", Helpers: []api.Helper{{Id: 1, Args: []api.Arg{{Kind: api.ArgCtx, Maps: []api.MapKind{}}}, Ret: api.Ret{Kind: api.RetScalar}}}},
	} {
		if e := checkTable(t, x); e != api.OK {
			t.Errorf("%+v: %v", x, e)
		}
	}
	h, _ := kinds.Own(api.CoreLookup)
	h.Id, h.Args[1].Maps = 1, []api.MapKind{}
	if e := checkHelper(t, h); e != api.OK {
		t.Errorf("the host's own, with an empty list: %v", e)
	}
}
