package kinds

import "hatchway/api"

// parts is what the parts of a map's make may be.
type parts struct{ key, value, entries bounds[int] }

func (p parts) hasKey() bool   { return p.key.hi > 0 }
func (p parts) hasValue() bool { return p.value.hi > 0 }

// makes tells of each kind of maps what its makes may be. The map is made anew for each call: package level may hold none.
func makes() map[api.MapKind]parts {
	none := from(0, 0)
	values, entries := from(1, api.MaxValue), from(1, api.MaxEntries)
	return map[api.MapKind]parts{
		api.MapArray:    {from(4, 4), values, entries},
		api.MapHash:     {from(1, api.MaxKey), values, entries},
		api.MapLru:      {from(1, api.MaxKey), values, entries},
		api.MapTrie:     {from(5, 36), values, entries},
		api.MapQueue:    {none, values, entries},
		api.MapStack:    {none, values, entries},
		api.MapRing:     {none, none, from(16, 16384)},
		api.MapPrograms: {from(4, 4), from(8, 8), from(1, 64)},
	}
}

// argsError tells the first error of a helper's arguments.
func argsError(args []api.Arg) api.Errno {
	all := makes()
	for ahead, a := range withAhead(args) {
		behind := args[len(ahead)+1:]
		if !rightNumbers(a) || !rightMaps(all, a) || !isPaired(ahead, a, behind) {
			return api.ErrType
		}
		if !suitsMaps(all, mapsOf(ahead), a) {
			return api.ErrMap
		}
	}
	return api.OK
}

// rightNumbers tells whether an argument is of a kind, and its Lo and Hi are as that says.
func rightNumbers(a api.Arg) bool {
	switch a.Kind {
	case api.ArgScalar:
		return a.Lo <= a.Hi
	case api.ArgSize:
		return a.Lo == 0 && from[int64](1, api.MaxScratch).has(a.Hi)
	}
	return from(api.ArgScalar, api.ArgSize).has(a.Kind) && a.Lo == 0 && a.Hi == 0
}

func rightMaps(all map[api.MapKind]parts, a api.Arg) bool {
	if a.Kind != api.ArgMap {
		return len(a.Maps) == 0
	}
	kindError := func(kind api.MapKind) api.Errno {
		_, ok := all[kind]
		return unless(ok, api.ErrType)
	}
	return len(a.Maps) > 0 && rise(a.Maps, kindError, kindAbove, api.ErrType) == api.OK
}

func kindAbove(ahead, kind api.MapKind) bool {
	return ahead < kind
}

// isPaired tells whether memory has its size next behind it, and a size its memory next ahead.
func isPaired(ahead []api.Arg, a api.Arg, behind []api.Arg) bool {
	switch a.Kind {
	case api.ArgMem, api.ArgMemOut:
		return len(behind) > 0 && behind[0].Kind == api.ArgSize
	case api.ArgSize:
		last := len(ahead) - 1
		return last >= 0 && from(api.ArgMem, api.ArgMemOut).has(ahead[last].Kind)
	}
	return true
}

// suitsMaps tells whether an argument may stand behind an ArgMap of these kinds; behind none, if there are no kinds.
func suitsMaps(all map[api.MapKind]parts, kinds []api.MapKind, a api.Arg) bool {
	switch a.Kind {
	case api.ArgMap:
		return len(kinds) == 0
	case api.ArgKey:
		return every(kinds, func(k api.MapKind) bool { return all[k].hasKey() })
	case api.ArgValue:
		return every(kinds, func(k api.MapKind) bool { return all[k].hasValue() })
	case api.ArgOut: // what stands in a map of programs is told to none of them
		return every(kinds, func(k api.MapKind) bool { return all[k].hasValue() && k != api.MapPrograms })
	}
	return true
}

// mapsOf tells of which kinds the ArgMap among these arguments may be; none, if there is no ArgMap.
func mapsOf(args []api.Arg) []api.MapKind {
	for _, a := range args {
		if a.Kind == api.ArgMap {
			return a.Maps
		}
	}
	return nil
}

// rightRet tells whether a helper, of right arguments, has an answer as it must be.
func rightRet(h api.Helper) bool {
	r := h.Ret
	switch r.Kind {
	case api.RetScalar:
		return r.Lo <= r.Hi && r.Size == 0
	case api.RetValue:
		return r == api.Ret{Kind: r.Kind} && every(mapsOf(h.Args), from(api.MapArray, api.MapTrie).has)
	case api.RetScratch:
		return r.Lo == 0 && r.Hi == 0 && from(1, api.MaxScratch).has(r.Size)
	}
	return false
}
