package kinds_test

import (
	"math"
	"reflect"
	"regexp"
	"slices"
	"strings"

	"hatchway/api"
)

// The chapter's words, written out by the numbers of kinds, and apart from the package's own functions.

// plain is a helper with its lists that are nil made empty ones: the two are one.
func plain(h api.Helper) api.Helper {
	args := []api.Arg{}
	for _, a := range h.Args {
		a.Maps = append([]api.MapKind{}, a.Maps...)
		args = append(args, a)
	}
	h.Args = args
	return h
}

var wantName = regexp.MustCompile(`\A[a-z0-9_.]{1,24}\z`).MatchString

// wantKinds tells whether kinds of maps, each a digit, rise.
var wantKinds = regexp.MustCompile(`\A1?2?3?4?5?6?7?8?\z`).MatchString

// wantMake is a row of the chapter's table of makes: the least and the greatest of each part.
type wantMake struct{ key, value, entries [2]int }

func wantMakes() map[int]wantMake {
	return map[int]wantMake{
		1: {[2]int{4, 4}, [2]int{1, 1024}, [2]int{1, 1024}},
		2: {[2]int{1, 64}, [2]int{1, 1024}, [2]int{1, 1024}},
		3: {[2]int{1, 64}, [2]int{1, 1024}, [2]int{1, 1024}},
		4: {[2]int{5, 36}, [2]int{1, 1024}, [2]int{1, 1024}},
		5: {[2]int{0, 0}, [2]int{1, 1024}, [2]int{1, 1024}},
		6: {[2]int{0, 0}, [2]int{1, 1024}, [2]int{1, 1024}},
		7: {[2]int{0, 0}, [2]int{0, 0}, [2]int{16, 16384}},
		8: {[2]int{4, 4}, [2]int{8, 8}, [2]int{1, 64}},
	}
}

func wantSpec(m api.MapSpec) api.Errno {
	row, ok := wantMakes()[int(m.Kind)]
	if !ok {
		return api.ErrKind
	}
	for i, part := range []int{m.Key, m.Value, m.Entries} {
		ends := [][2]int{row.key, row.value, row.entries}[i]
		if part < ends[0] || part > ends[1] {
			return api.ErrArg
		}
	}
	return api.OK
}

// wantOwns is the chapter's table of the host's own helpers.
func wantOwns() map[int]api.Helper {
	maps := func(kinds ...api.MapKind) api.Arg { return api.Arg{Kind: 3, Maps: kinds} }
	key, value, out := api.Arg{Kind: 4}, api.Arg{Kind: 5}, api.Arg{Kind: 6}
	flags := api.Arg{Kind: 1, Lo: 0, Hi: 2}
	failure := api.Ret{Kind: 1, Lo: -100, Hi: 0}
	word := api.Ret{Kind: 1, Lo: math.MinInt64, Hi: math.MaxInt64}
	return map[int]api.Helper{
		1:  {Core: 1, Args: []api.Arg{maps(1, 2, 3, 4), key}, Ret: api.Ret{Kind: 2}},
		2:  {Core: 2, Args: []api.Arg{maps(1, 2, 3, 4, 8), key, value, flags}, Ret: failure},
		3:  {Core: 3, Args: []api.Arg{maps(2, 3, 4, 8), key}, Ret: failure},
		4:  {Core: 4, Args: []api.Arg{maps(5, 6), value, flags}, Ret: failure},
		5:  {Core: 5, Args: []api.Arg{maps(5, 6), out}, Ret: failure},
		6:  {Core: 6, Args: []api.Arg{maps(5, 6), out}, Ret: failure},
		7:  {Core: 7, Args: []api.Arg{maps(7), {Kind: 7}, {Kind: 9, Hi: 1024}}, Ret: failure},
		8:  {Core: 8, Args: []api.Arg{{Kind: 2}, maps(8), {Kind: 1, Lo: 0, Hi: 4294967295}}, Ret: api.Ret{Kind: 1, Lo: -1, Hi: -1}},
		9:  {Core: 9, Ret: word},
		10: {Core: 10, Ret: word},
	}
}

func wantVersion(major, minor int) bool {
	return major >= 0 && major <= 65535 && minor >= 0 && minor <= 65535
}

func wantNumber(id int) bool { return id >= 1 && id <= 1073741824 }

// wantFields lays the fields over the context's bytes, the first one first.
func wantFields(t api.ProgType) bool {
	bytes := make([]int, t.Ctx) // whose each byte is: of the field of that place, counted from 1 on
	kinds := [4]int{}
	for i, f := range t.Fields {
		if !slices.Contains([]int{1, 2, 4, 8}, f.Size) || f.Off < 0 || f.Off > t.Ctx || f.Off%f.Size != 0 || f.Off+f.Size > t.Ctx {
			return false
		}
		for at, whose := range bytes {
			if whose != 0 && at >= f.Off {
				return false
			}
		}
		for at := f.Off; at < f.Off+f.Size; at++ {
			bytes[at] = i + 1
		}
		if f.Kind != 1 && f.Kind != 2 && f.Kind != 3 || f.Kind != 1 && (f.Size != 8 || f.Write) {
			return false
		}
		kinds[f.Kind]++
	}
	return kinds[2] == 0 && kinds[3] == 0 || kinds[2] == 1 && kinds[3] == 1
}

func wantNeeds(needs []api.Need) bool {
	for i, n := range needs {
		if !wantNumber(n.Helper) || !wantVersion(n.Major, n.Minor) || i > 0 && n.Helper <= needs[i-1].Helper {
			return false
		}
	}
	return true
}

func wantType(t api.ProgType) api.Errno {
	if !wantName(t.Name) {
		return api.ErrArg
	}
	if t.Ctx < 8 || t.Ctx > 256 || len(t.Fields) > 32 || len(t.Needs) > 64 {
		return api.ErrLong
	}
	if !wantFields(t) {
		return api.ErrField
	}
	if !wantNeeds(t.Needs) {
		return api.ErrHelper
	}
	if t.Lo > t.Hi {
		return api.ErrReturn
	}
	return api.OK
}

// sign is an argument's letter: S for ArgScalar, then C, M, K, V, O, I, W, Z; ? for one that is wrong by itself.
func sign(a api.Arg) byte {
	if a.Kind < 1 || a.Kind > 9 {
		return '?'
	}
	numbers := a.Lo == 0 && a.Hi == 0
	if a.Kind == 1 {
		numbers = a.Lo <= a.Hi
	} else if a.Kind == 9 {
		numbers = a.Lo == 0 && a.Hi >= 1 && a.Hi <= 1024
	}
	kinds := len(a.Maps) == 0
	if a.Kind == 3 {
		kinds = wantKinds(digits(a.Maps)) && len(a.Maps) > 0
	}
	if !numbers || !kinds {
		return '?'
	}
	return "SCMKVOIWZ"[a.Kind-1]
}

// digits are kinds of maps as a text, each one sign; x, if it is no digit.
func digits(kinds []api.MapKind) string {
	var b strings.Builder
	for _, k := range kinds {
		if k > 9 {
			b.WriteByte('x')
			continue
		}
		b.WriteByte('0' + byte(k))
	}
	return b.String()
}

func wantArgs(args []api.Arg) api.Errno {
	text, kinds := "", ""
	for _, a := range args {
		text += string(sign(a))
	}
	for i, a := range args {
		ahead, behind := text[:i], text[i+1:]
		wrong := map[byte]string{'K': "567", 'V': "7", 'O': "78"}
		switch text[i] {
		case '?':
			return api.ErrType
		case 'I', 'W':
			if !strings.HasPrefix(behind, "Z") {
				return api.ErrType
			}
		case 'Z':
			if !strings.HasSuffix(ahead, "I") && !strings.HasSuffix(ahead, "W") {
				return api.ErrType
			}
		case 'M':
			if strings.Contains(ahead, "M") {
				return api.ErrMap
			}
			kinds = digits(a.Maps)
		case 'K', 'V', 'O':
			if kinds == "" || strings.ContainsAny(kinds, wrong[text[i]]) {
				return api.ErrMap
			}
		}
	}
	return api.OK
}

func wantRet(h api.Helper) bool {
	r := h.Ret
	switch r.Kind {
	case 1:
		return r.Lo <= r.Hi && r.Size == 0
	case 2:
		there := false
		for _, a := range h.Args {
			there = there || a.Kind == 3
			if a.Kind == 3 && strings.ContainsAny(digits(a.Maps), "5678") {
				return false
			}
		}
		return there && r.Lo == 0 && r.Hi == 0 && r.Size == 0
	case 3:
		return r.Lo == 0 && r.Hi == 0 && r.Size >= 1 && r.Size <= 1024
	}
	return false
}

func wantHelper(h api.Helper) api.Errno {
	if !wantNumber(h.Id) || !wantVersion(h.Major, h.Minor) {
		return api.ErrHelper
	}
	if len(h.Args) > 5 {
		return api.ErrLong
	}
	if e := wantArgs(h.Args); e != api.OK {
		return e
	}
	if !wantRet(h) {
		return api.ErrReturn
	}
	own, there := wantOwns()[int(h.Core)]
	own.Id, own.Major, own.Minor = h.Id, h.Major, h.Minor
	if h.Core != 0 && (!there || !reflect.DeepEqual(plain(h), plain(own))) {
		return api.ErrKind
	}
	return api.OK
}

func wantTable(t api.Table) api.Errno {
	if !wantName(t.Provider) {
		return api.ErrArg
	}
	if len(t.Types) > 16 || len(t.Helpers) > 64 {
		return api.ErrLong
	}
	for i, x := range t.Types {
		if e := wantType(x); e != api.OK {
			return e
		}
		if i > 0 && strings.Compare(t.Types[i-1].Name, x.Name) >= 0 {
			return api.ErrThere
		}
	}
	for i, h := range t.Helpers {
		if e := wantHelper(h); e != api.OK {
			return e
		}
		if i > 0 && slices.Compare(numbersOf(t.Helpers[i-1]), numbersOf(h)) >= 0 {
			return api.ErrThere
		}
	}
	return api.OK
}

func numbersOf(h api.Helper) []int { return []int{h.Id, h.Major, h.Minor} }
