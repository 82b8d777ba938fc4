package kinds

import (
	"math"

	"hatchway/api"
)

// Own tells the host's own helper of a kind, without a number; false, if there is none.
func Own(kind api.CoreKind) (api.Helper, bool) {
	args, ret := ownParts(kind)
	if ret.Kind == 0 {
		return api.Helper{}, false
	}
	return api.Helper{Core: kind, Args: args, Ret: ret}, true
}

// ownParts tells the arguments and the answer of the host's own helper of a kind, all of it new memory; zero ones, if there is none.
func ownParts(kind api.CoreKind) ([]api.Arg, api.Ret) {
	key, value, out := plain(api.ArgKey), plain(api.ArgValue), plain(api.ArgOut)
	flags := scalar(api.FlagAny, api.FlagThere)
	failure := answer(-100, 0)
	switch kind {
	case api.CoreLookup:
		return []api.Arg{oneOf(api.MapArray, api.MapHash, api.MapLru, api.MapTrie), key}, api.Ret{Kind: api.RetValue}
	case api.CoreUpdate:
		return []api.Arg{oneOf(api.MapArray, api.MapHash, api.MapLru, api.MapTrie, api.MapPrograms), key, value, flags}, failure
	case api.CoreDelete:
		return []api.Arg{oneOf(api.MapHash, api.MapLru, api.MapTrie, api.MapPrograms), key}, failure
	case api.CorePush:
		return []api.Arg{oneOf(api.MapQueue, api.MapStack), value, flags}, failure
	case api.CorePop, api.CorePeek:
		return []api.Arg{oneOf(api.MapQueue, api.MapStack), out}, failure
	case api.CoreRing:
		return []api.Arg{oneOf(api.MapRing), plain(api.ArgMem), {Kind: api.ArgSize, Hi: 1024}}, failure
	case api.CoreTail:
		return []api.Arg{plain(api.ArgCtx), oneOf(api.MapPrograms), scalar(0, math.MaxUint32)}, answer(-1, -1)
	case api.CoreRandom, api.CoreClock:
		return nil, answer(math.MinInt64, math.MaxInt64)
	}
	return nil, api.Ret{}
}

func plain(kind api.ArgKind) api.Arg {
	return api.Arg{Kind: kind}
}

func scalar(lo, hi int64) api.Arg {
	return api.Arg{Kind: api.ArgScalar, Lo: lo, Hi: hi}
}

func oneOf(maps ...api.MapKind) api.Arg {
	return api.Arg{Kind: api.ArgMap, Maps: maps}
}

func answer(lo, hi int64) api.Ret {
	return api.Ret{Kind: api.RetScalar, Lo: lo, Hi: hi}
}
