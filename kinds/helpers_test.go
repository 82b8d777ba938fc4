package kinds_test

import (
	"math"
	"slices"
	"testing"

	"hatchway/api"
	"hatchway/kinds"
)

func checkHelper(t *testing.T, h api.Helper) api.Errno {
	t.Helper()
	got, want := kinds.Helper(h), wantHelper(h)
	if got != want {
		t.Errorf("Helper(%+v) = %v, want %v", h, got, want)
	}
	return got
}

// withArgs is a helper of these arguments that is right, if they are.
func withArgs(args ...api.Arg) api.Helper {
	return api.Helper{Id: 7, Major: 1, Args: args, Ret: api.Ret{Kind: api.RetScalar}}
}

func argOf(kind api.ArgKind) api.Arg     { return api.Arg{Kind: kind} }
func mapOf(kinds ...api.MapKind) api.Arg { return api.Arg{Kind: api.ArgMap, Maps: kinds} }
func scalarOf(lo, hi int64) api.Arg      { return api.Arg{Kind: api.ArgScalar, Lo: lo, Hi: hi} }
func sizeTo(hi int64) api.Arg            { return api.Arg{Kind: api.ArgSize, Hi: hi} }
func numbered(id, major, min int) api.Helper {
	return api.Helper{Id: id, Major: major, Minor: min, Ret: api.Ret{Kind: 1}}
}

// kindSets are all sets of the eight kinds of maps, rising, but the empty one.
func kindSets() [][]api.MapKind {
	var all [][]api.MapKind
	for bits := 1; bits < 256; bits++ {
		var set []api.MapKind
		for k := api.MapArray; k <= api.MapPrograms; k++ {
			if bits>>(k-1)&1 != 0 {
				set = append(set, k)
			}
		}
		all = append(all, set)
	}
	return all
}

func TestP6_3Examples(t *testing.T) {
	for i, c := range []struct {
		args []api.Arg
		want api.Errno
	}{
		{[]api.Arg{argOf(api.ArgKey)}, api.ErrMap},
		{[]api.Arg{mapOf(api.MapHash), argOf(api.ArgKey)}, api.OK},
		{[]api.Arg{argOf(api.ArgKey), mapOf(api.MapHash)}, api.ErrMap},
		{[]api.Arg{mapOf(api.MapHash), argOf(api.ArgCtx), argOf(api.ArgKey), argOf(api.ArgOut), argOf(api.ArgValue)}, api.OK},
		{[]api.Arg{mapOf(api.MapHash), mapOf(api.MapHash)}, api.ErrMap},
		{[]api.Arg{mapOf(api.MapHash, api.MapQueue), argOf(api.ArgKey)}, api.ErrMap},
		{[]api.Arg{mapOf(api.MapPrograms), argOf(api.ArgKey), argOf(api.ArgValue)}, api.OK},
		{[]api.Arg{mapOf(api.MapPrograms), argOf(api.ArgOut)}, api.ErrMap},
		{[]api.Arg{argOf(api.ArgMem), argOf(api.ArgCtx), sizeTo(4)}, api.ErrType},
		{[]api.Arg{argOf(api.ArgMemOut), sizeTo(4), sizeTo(4)}, api.ErrType},
		{[]api.Arg{argOf(api.ArgMemOut), sizeTo(4), argOf(api.ArgMem), sizeTo(1024)}, api.OK},
		{[]api.Arg{argOf(api.ArgKey), sizeTo(4)}, api.ErrMap}, // the key's error is first, the size stands behind it
		{[]api.Arg{argOf(api.ArgMem), argOf(api.ArgKey)}, api.ErrType},
	} {
		if e := checkHelper(t, withArgs(c.args...)); e != c.want {
			t.Errorf("%d: %v, want %v", i, e, c.want)
		}
	}
}

func TestP6_3Numbers(t *testing.T) {
	versions := append(outside(), 0, 1, 2, 65534, 65535, 65536)
	for _, id := range append(outside(), 0, 1, 2, 1<<30-1, 1<<30, 1<<30+1) {
		checkHelper(t, numbered(id, 0, 0))
		checkHelper(t, numbered(id, 65535, 65535))
		for _, major := range versions {
			checkHelper(t, numbered(id, major, 1))
			checkHelper(t, numbered(id, 1, major))
			for _, minor := range versions {
				checkHelper(t, numbered(5, major, minor))
			}
		}
	}
}

func TestP6_3HowManyArgs(t *testing.T) {
	for n := range 300 {
		want := api.OK
		if n > 5 {
			want = api.ErrLong
		}
		if e := checkHelper(t, withArgs(slices.Repeat([]api.Arg{argOf(api.ArgCtx)}, n)...)); e != want {
			t.Errorf("%d arguments: %v", n, e)
		}
		checkHelper(t, withArgs(make([]api.Arg, n)...)) // too many come ahead of those that are wrong
	}
}

// Each Kind with each Lo, Hi, and Maps or none, alone, ahead of a size, and behind memory.
func TestP6_3ArgParts(t *testing.T) {
	numbers := []int64{math.MinInt64, -1025, -1, 0, 1, 2, 1023, 1024, 1025, 1 << 32, math.MaxInt64}
	maps := [][]api.MapKind{nil, {}, {1}, {0}, {9}, {1, 2}, {7}}
	right := map[api.ArgKind]int{}
	for kind := range 256 {
		for _, lo := range numbers {
			for _, hi := range numbers {
				for _, m := range maps {
					a := api.Arg{Kind: api.ArgKind(kind), Lo: lo, Hi: hi, Maps: m}
					checkHelper(t, withArgs(a))
					checkHelper(t, withArgs(mapOf(1), a))
					checkHelper(t, withArgs(a, sizeTo(9)))
					if checkHelper(t, withArgs(argOf(api.ArgMem), a)) == api.OK {
						right[a.Kind]++
					}
				}
			}
		}
	}
	if len(right) != 1 || right[api.ArgSize] != 4*2 { // Hi 1, 2, 1023, 1024, with Maps nil or empty
		t.Errorf("behind memory are right: %v", right)
	}
}

func TestP6_3ArgMaps(t *testing.T) {
	right := 0
	check := func(maps ...api.MapKind) {
		if checkHelper(t, withArgs(mapOf(maps...))) == api.OK {
			right++
		}
	}
	check()
	for i := range 12 {
		check(api.MapKind(i))
		for j := range 12 {
			check(api.MapKind(i), api.MapKind(j))
			for k := range 12 {
				check(api.MapKind(i), api.MapKind(j), api.MapKind(k))
			}
		}
	}
	if right != 8+28+56 {
		t.Errorf("%d rows of up to three kinds are right", right)
	}
	for kind := range 256 {
		check(api.MapKind(kind))
		check(1, api.MapKind(kind))
		check(api.MapKind(kind), 8)
	}
	for n := range 300 {
		check(make([]api.MapKind, n)...)
		check(slices.Repeat([]api.MapKind{8}, n)...)
	}
	for _, set := range kindSets() {
		check(set...)
		check(append(set, 8)...)
		check(append(set, 9)...)
	}
}

// What stands behind an ArgMap of each set of kinds.
func TestP6_3BehindMaps(t *testing.T) {
	right := map[api.ArgKind]int{}
	for _, set := range kindSets() {
		for kind := range 12 {
			a := api.Arg{Kind: api.ArgKind(kind)}
			if checkHelper(t, withArgs(mapOf(set...), a)) == api.OK {
				right[a.Kind]++
			}
			checkHelper(t, withArgs(argOf(api.ArgCtx), mapOf(set...), scalarOf(0, 1), argOf(api.ArgCtx), a))
			checkHelper(t, withArgs(a, mapOf(set...)))
		}
	}
	want := map[api.ArgKind]int{1: 255, 2: 255, 4: 31, 5: 127, 6: 63}
	for kind := range api.ArgKind(12) {
		if right[kind] != want[kind] {
			t.Errorf("%d rights of kind %d, want %d", right[kind], kind, want[kind])
		}
	}
}

// rowsOf goes through all rows of up to so many elements.
func rowsOf[T any](alphabet []T, most int, visit func(row []T)) {
	var grow func(row []T)
	grow = func(row []T) {
		visit(row)
		if len(row) == most {
			return
		}
		for _, a := range alphabet {
			grow(append(row[:len(row):len(row)], a))
		}
	}
	grow(nil)
}

func TestP6_3SmallRows(t *testing.T) {
	alphabet := []api.Arg{scalarOf(-5, 9), argOf(api.ArgCtx), mapOf(api.MapHash), mapOf(api.MapQueue), mapOf(api.MapPrograms), argOf(api.ArgKey), argOf(api.ArgValue), argOf(api.ArgOut), argOf(api.ArgMem), argOf(api.ArgMemOut), sizeTo(8)}
	seen := map[api.Errno]int{}
	rowsOf(alphabet, 5, func(row []api.Arg) { seen[checkHelper(t, withArgs(row...))]++ })
	if len(seen) != 3 || seen[api.OK] == 0 || seen[api.ErrType] == 0 || seen[api.ErrMap] == 0 {
		t.Errorf("seen: %v", seen)
	}
}

func TestP6_3SmallRowsWithWrongArgs(t *testing.T) {
	alphabet := []api.Arg{
		scalarOf(0, 0), argOf(api.ArgCtx), mapOf(api.MapHash, api.MapLru), mapOf(api.MapRing), argOf(api.ArgKey), argOf(api.ArgOut), argOf(api.ArgMem), sizeTo(8),
		{}, argOf(10), scalarOf(1, 0), sizeTo(0), mapOf(), mapOf(2, 1),
		{Kind: api.ArgKey, Lo: 1}, {Kind: api.ArgMem, Hi: 1}, {Kind: api.ArgOut, Maps: []api.MapKind{1}},
	}
	rowsOf(alphabet, 4, func(row []api.Arg) { checkHelper(t, withArgs(row...)) })
}

func TestP6_3Rets(t *testing.T) {
	bounds := []int64{math.MinInt64, -1, 0, 1, 100, math.MaxInt64}
	sizes := append(outside(), 0, 1, 2, 1023, 1024, 1025)
	right := map[api.RetKind]int{}
	for kind := range 256 {
		for _, lo := range bounds {
			for _, hi := range bounds {
				for _, size := range sizes {
					r := api.Ret{Kind: api.RetKind(kind), Lo: lo, Hi: hi, Size: size}
					for _, args := range [][]api.Arg{nil, {mapOf(api.MapHash)}, {argOf(api.ArgCtx), mapOf(api.MapHash, api.MapQueue)}} {
						h := withArgs(args...)
						h.Ret = r
						if checkHelper(t, h) == api.OK {
							right[r.Kind]++
						}
					}
				}
			}
		}
	}
	if len(right) != 3 || right[api.RetScalar] != 3*21 || right[api.RetValue] != 1 || right[api.RetScratch] != 3*4 {
		t.Errorf("right answers: %v", right)
	}
}

// A value is told of those kinds of maps alone that have values to be told.
func TestP6_3RetValue(t *testing.T) {
	right := 0
	for _, set := range kindSets() {
		for _, args := range [][]api.Arg{{mapOf(set...)}, {argOf(api.ArgCtx), scalarOf(1, 2), argOf(api.ArgMem), sizeTo(3), mapOf(set...)}} {
			h := withArgs(args...)
			h.Ret = api.Ret{Kind: api.RetValue}
			if checkHelper(t, h) == api.OK {
				right++
			}
		}
	}
	if right != 2*15 {
		t.Errorf("%d are right", right)
	}
	h := withArgs(argOf(api.ArgCtx))
	h.Ret = api.Ret{Kind: api.RetValue}
	if e := checkHelper(t, h); e != api.ErrReturn {
		t.Errorf("without a map: %v", e)
	}
}

// ownTurns are the host's own helper of a kind, with one part turned.
func ownTurns(kind int) []api.Helper {
	var all []api.Helper
	turn := func(change func(h *api.Helper)) {
		h, _ := kinds.Own(api.CoreKind(kind))
		h.Id, h.Major = kind, 1
		change(&h)
		all = append(all, h)
	}
	for core := range 256 {
		turn(func(h *api.Helper) { h.Core = api.CoreKind(core) })
	}
	first, _ := kinds.Own(api.CoreKind(kind))
	for at := range first.Args {
		for argKind := range 12 {
			turn(func(h *api.Helper) { h.Args[at].Kind = api.ArgKind(argKind) })
		}
		for _, by := range []int64{-1, 1, 2, -1 << 32, math.MinInt64} {
			turn(func(h *api.Helper) { h.Args[at].Lo += by })
			turn(func(h *api.Helper) { h.Args[at].Hi += by })
		}
		for _, set := range append(kindSets(), nil, []api.MapKind{}) {
			turn(func(h *api.Helper) { h.Args[at].Maps = set })
		}
		turn(func(h *api.Helper) { h.Args = slices.Delete(h.Args, at, at+1) })
		for other := range at {
			turn(func(h *api.Helper) { h.Args[at], h.Args[other] = h.Args[other], h.Args[at] })
		}
	}
	for at := range len(first.Args) + 1 {
		for _, a := range []api.Arg{argOf(api.ArgCtx), scalarOf(0, 2), argOf(api.ArgKey), argOf(api.ArgValue)} {
			turn(func(h *api.Helper) { h.Args = slices.Insert(h.Args, at, a) })
		}
	}
	for retKind := range 5 {
		turn(func(h *api.Helper) { h.Ret.Kind = api.RetKind(retKind) })
	}
	for _, by := range []int64{-1, 1, 100, math.MinInt64, math.MaxInt64} {
		turn(func(h *api.Helper) { h.Ret.Lo += by })
		turn(func(h *api.Helper) { h.Ret.Hi += by })
		turn(func(h *api.Helper) { h.Ret.Size += int(by) })
	}
	return all
}

func TestP6_3OwnTurned(t *testing.T) {
	for kind := range wantOwns() {
		turns, as := 0, map[api.Errno]int{}
		for _, h := range ownTurns(kind) {
			turns++
			as[checkHelper(t, h)]++
		}
		if as[api.ErrKind] < 10 {
			t.Errorf("of %d turns of %d: %v", turns, kind, as)
		}
	}
}

// Kinds that are not there: whatever the helper is, it is not theirs.
func TestP6_3CoreKinds(t *testing.T) {
	for core := range 256 {
		h := withArgs()
		h.Core = api.CoreKind(core)
		want := api.ErrKind
		if core == 0 {
			want = api.OK
		}
		if e := checkHelper(t, h); e != want {
			t.Errorf("Core %d: %v", core, e)
		}
		h.Ret = api.Ret{Kind: api.RetScalar, Lo: math.MinInt64, Hi: math.MaxInt64}
		checkHelper(t, h)
		h.Ret = api.Ret{}
		checkHelper(t, h)
	}
}

// Of each set of faults the first one named is told.
func TestP6_3FirstError(t *testing.T) {
	faults := []struct {
		turn func(h *api.Helper)
		want api.Errno
	}{
		{func(h *api.Helper) { h.Id = 0 }, api.ErrHelper},
		{func(h *api.Helper) { h.Minor = 65536 }, api.ErrHelper},
		{func(h *api.Helper) { h.Args = append(h.Args, h.Args...) }, api.ErrLong},
		{func(h *api.Helper) { h.Args[0].Hi = 1 }, api.ErrType},
		{func(h *api.Helper) { h.Args[1] = argOf(api.ArgOut) }, api.ErrMap},
		{func(h *api.Helper) { h.Args[2].Lo = 1 << 32 }, api.ErrType},
		{func(h *api.Helper) { h.Ret.Size = 1 }, api.ErrReturn},
		{func(h *api.Helper) { h.Core = 11 }, api.ErrKind},
	}
	for set := range 1 << len(faults) {
		h, _ := kinds.Own(api.CoreTail)
		h.Id = 8
		want := api.OK
		for i := len(faults) - 1; i >= 0; i-- { // the last ones first: one of them makes the row longer
			if set>>i&1 != 0 {
				faults[i].turn(&h)
				want = faults[i].want
			}
		}
		if e := checkHelper(t, h); e != want {
			t.Errorf("faults %b: %v, want %v", set, e, want)
		}
	}
}
