package asm

import (
	"iter"
	"slices"

	"hatchway/api"
)

// name is a row's name, or a part of it, and the bits of Op that it says.
type name struct {
	text string
	bits uint8
}

func operations() iter.Seq[name] {
	return slices.Values([]name{
		{"add", api.AluAdd}, {"sub", api.AluSub}, {"mul", api.AluMul}, {"div", api.AluDiv},
		{"or", api.AluOr}, {"and", api.AluAnd}, {"lsh", api.AluLsh}, {"rsh", api.AluRsh},
		{"mod", api.AluMod}, {"xor", api.AluXor}, {"mov", api.AluMov}, {"arsh", api.AluArsh},
	})
}

// signedOperations are those that are also done with signs.
func signedOperations() iter.Seq[name] {
	return slices.Values([]name{{"sdiv", api.AluDiv}, {"smod", api.AluMod}})
}

// orders are those of a number's bytes.
func orders() iter.Seq[name] {
	return slices.Values([]name{
		{"bswap", api.ClassAlu64 | api.AluEnd},
		{"le", api.ClassAlu | api.AluEnd},
		{"be", api.ClassAlu | api.AluEnd | api.SrcReg},
	})
}

func comparisons() iter.Seq[name] {
	return slices.Values([]name{
		{"jeq", api.JmpEq}, {"jgt", api.JmpGt}, {"jge", api.JmpGe}, {"jset", api.JmpSet},
		{"jne", api.JmpNe}, {"jsgt", api.JmpSgt}, {"jsge", api.JmpSge}, {"jlt", api.JmpLt},
		{"jle", api.JmpLe}, {"jslt", api.JmpSlt}, {"jsle", api.JmpSle},
	})
}

func sizes() iter.Seq[name] {
	return slices.Values([]name{{"b", api.SizeB}, {"h", api.SizeH}, {"w", api.SizeW}, {"dw", api.SizeDw}})
}
