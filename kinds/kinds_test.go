package kinds_test

import (
	"math"
	"reflect"
	"slices"
	"strings"
	"testing"

	"hatchway/api"
	"hatchway/kinds"
)

// outside are numbers that no part may be.
func outside() []int {
	return []int{math.MinInt, math.MinInt + 1, math.MinInt + 8, math.MinInt32, -65536, -256, -8, -1, 1 << 31, 1 << 32, 1<<32 + 4, 1<<32 + 8, math.MaxInt - 7, math.MaxInt - 1, math.MaxInt}
}

func checkName(t *testing.T, s string) {
	t.Helper()
	if got, want := kinds.Name(s), wantName(s); got != want {
		t.Errorf("Name(%q) = %v", s, got)
	}
}

func checkSpec(t *testing.T, m api.MapSpec) {
	t.Helper()
	if got, want := kinds.Spec(m), wantSpec(m); got != want {
		t.Errorf("Spec(%v) = %v, want %v", m, got, want)
	}
}

// Each byte, alone, and at each place of names.
func TestP6_1NameSigns(t *testing.T) {
	right := 0
	for c := range 256 {
		one := string([]byte{byte(c)})
		checkName(t, one)
		if kinds.Name(one) {
			right++
		}
		for _, length := range []int{2, 3, 23, 24, 25} {
			for at := range length {
				checkName(t, strings.Repeat("a", at)+one+strings.Repeat("z", length-at-1))
			}
		}
	}
	if right != 26+10+2 {
		t.Errorf("%d signs", right)
	}
}

func TestP6_1NameLengths(t *testing.T) {
	for n := range 300 {
		want := n >= 1 && n <= 24
		for _, c := range []string{"a", "z", "0", "9", "_", "."} {
			if kinds.Name(strings.Repeat(c, n)) != want {
				t.Errorf("Name of %d %s", n, c)
			}
		}
	}
	for _, s := range []string{"\u00e4", "a\u00e4", "\uff41", "\u0660", strings.Repeat("\u00e4", 12), "\xff", "a\x00", "a\n", "\na", " a", "a ", "a-b", "a/b", "A", "aB", strings.Repeat("a", 1<<20)} {
		if kinds.Name(s) {
			t.Errorf("Name of %.30q is true", s)
		}
	}
}

// Each part of each row at its ends, and one past them, with the others at theirs.
func TestP6_1SpecEnds(t *testing.T) {
	right := 0
	for kind, row := range wantMakes() {
		near := func(ends [2]int) []int { return []int{ends[0] - 1, ends[0], ends[1], ends[1] + 1} }
		for _, key := range near(row.key) {
			for _, value := range near(row.value) {
				for _, entries := range near(row.entries) {
					m := api.MapSpec{Kind: api.MapKind(kind), Key: key, Value: value, Entries: entries}
					checkSpec(t, m)
					if kinds.Spec(m) == api.OK {
						right++
					}
				}
			}
		}
	}
	if right != 8*8 {
		t.Errorf("%d right makes", right)
	}
}

func TestP6_1SpecParts(t *testing.T) {
	for kind := range 256 {
		row := wantMakes()[kind]
		right := api.MapSpec{Kind: api.MapKind(kind), Key: row.key[0], Value: row.value[0], Entries: row.entries[0]}
		parts := outside()
		for n := range 1100 {
			parts = append(parts, n)
		}
		for _, n := range append(parts, 2048, 16383, 16384, 16385, 65536) {
			for part := range 3 {
				m := right
				*[]*int{&m.Key, &m.Value, &m.Entries}[part] = n
				checkSpec(t, m)
			}
		}
	}
}

func TestP6_1SpecErrors(t *testing.T) {
	for kind := range 256 {
		there := kind >= 1 && kind <= 8
		for _, m := range []api.MapSpec{{}, {Key: -1, Value: -1, Entries: -1}, {Key: 4, Value: 8, Entries: 16}} {
			m.Kind = api.MapKind(kind)
			if got := kinds.Spec(m); (got == api.ErrKind) == there {
				t.Errorf("Spec(%v) = %v", m, got)
			}
		}
	}
}

func TestP6_1Own(t *testing.T) {
	for kind := range 256 {
		want, there := wantOwns()[kind]
		got, ok := kinds.Own(api.CoreKind(kind))
		if ok != there || !reflect.DeepEqual(plain(got), plain(want)) {
			t.Errorf("Own(%d) = %v, %v, want %v", kind, got, ok, want)
		}
		if !ok && !reflect.DeepEqual(got, api.Helper{}) {
			t.Errorf("Own(%d), which is not there, is %v", kind, got)
		}
	}
}

// What is handed out is new memory.
func TestP6_1OwnNewMemory(t *testing.T) {
	for kind := range wantOwns() {
		one, _ := kinds.Own(api.CoreKind(kind))
		other, _ := kinds.Own(api.CoreKind(kind))
		for i := range one.Args {
			for j := range one.Args[i].Maps {
				one.Args[i].Maps[j] = 99
			}
			one.Args[i].Maps = append(one.Args[i].Maps, 98)
			one.Args[i].Kind, one.Args[i].Lo, one.Args[i].Hi = 99, 98, 97
		}
		again, _ := kinds.Own(api.CoreKind(kind))
		want := wantOwns()[kind]
		if !reflect.DeepEqual(plain(other), plain(want)) || !reflect.DeepEqual(plain(again), plain(want)) {
			t.Errorf("Own(%d): its answers share memory", kind)
		}
	}
}

// fieldWith checks what Field tells of that place and size against the first field of a row that has them.
func fieldWith(t *testing.T, x api.ProgType, off, size int) {
	t.Helper()
	at := slices.IndexFunc(x.Fields, func(f api.Field) bool { return f.Off == off && f.Size == size })
	want := api.Field{}
	if at >= 0 {
		want = x.Fields[at]
	}
	if got, ok := kinds.Field(x, off, size); got != want || ok != (at >= 0) {
		t.Errorf("Field(%v, %d, %d) = %v, %v, want %v", x.Fields, off, size, got, ok, want)
	}
}

func TestP6_5Field(t *testing.T) {
	for _, x := range []api.ProgType{
		{}, {Fields: []api.Field{}},
		packetType(),
		{Name: "b", Ctx: 256, Fields: []api.Field{{Off: 248, Size: 8, Kind: 1, Write: true}}},
		{Name: "c", Ctx: 16, Fields: []api.Field{{Off: 0, Size: 1, Kind: 1}, {Off: 1, Size: 1, Kind: 1, Write: true}, {Off: 2, Size: 2, Kind: 1}, {Off: 4, Size: 4, Kind: 1, Write: true}, {Off: 8, Size: 8, Kind: 1}}},
	} {
		for off := -9; off <= 260; off++ {
			for size := -1; size <= 17; size++ {
				fieldWith(t, x, off, size)
			}
			for _, size := range outside() {
				fieldWith(t, x, off, size)
				fieldWith(t, x, size, 8)
			}
		}
	}
}

// Whether the type is right is not asked: of two alike it is the first.
func TestP6_5FieldOfWrongTypes(t *testing.T) {
	x := api.ProgType{Ctx: -1, Fields: []api.Field{{Off: -3, Size: 3, Kind: 9}, {Off: 8, Size: 0, Kind: 2}, {Off: 8, Size: 8, Kind: 1, Write: true}, {Off: 8, Size: 8, Kind: 2}, {Off: math.MaxInt, Size: math.MinInt, Kind: 3, Write: true}, {}}}
	for _, f := range x.Fields {
		fieldWith(t, x, f.Off, f.Size)
		fieldWith(t, x, f.Off, f.Size+1)
		fieldWith(t, x, f.Off+1, f.Size)
	}
	long := api.ProgType{Fields: make([]api.Field, 1000)}
	long.Fields[999] = api.Field{Off: 5, Size: 2, Kind: 1, Write: true}
	fieldWith(t, long, 5, 2)
	fieldWith(t, long, 0, 0)
}
