package shape

import "hatchway/api"

// musts makes the table of the classes: what each of the eight must have. It is made anew for each call: package level may hold no functions.
func musts() map[uint8]must {
	return map[uint8]must{
		api.ClassLd: func(in, behind api.Instr) (is, fits bool) {
			return in.Op == load64, rightLoad64(in, behind)
		},
		api.ClassLdx: func(in, _ api.Instr) (is, fits bool) {
			return isMem(in) || isSignedMem(in), in.Imm == 0
		},
		api.ClassSt: func(in, _ api.Instr) (is, fits bool) {
			return isMem(in), in.Src == 0
		},
		api.ClassStx: func(in, _ api.Instr) (is, fits bool) {
			return isMem(in), in.Imm == 0
		},
		api.ClassAlu:   arithmetic(false),
		api.ClassAlu64: arithmetic(true),
		api.ClassJmp:   jumps(true),
		api.ClassJmp32: jumps(false),
	}
}

// arithmetic makes what ClassAlu, or, wide, ClassAlu64 must have.
func arithmetic(wide bool) must {
	return func(in, _ api.Instr) (is, fits bool) {
		switch op := in.Op & operationBits; op {
		case api.AluEnd:
			return !(wide && readsSrc(in)), isSwap(in)
		case api.AluNeg:
			return !readsSrc(in), in == api.Instr{Op: in.Op, Dst: in.Dst}
		case api.AluDiv, api.AluMod:
			return true, oneSource(in) && (in.Off == 0 || in.Off == 1)
		case api.AluMov:
			return true, oneSource(in) && rightMov(in, wide)
		default:
			return op < api.AluEnd, oneSource(in) && in.Off == 0
		}
	}
}

// jumps makes what ClassJmp32, or, wide, ClassJmp must have.
func jumps(wide bool) must {
	return func(in, _ api.Instr) (is, fits bool) {
		switch in.Op &^ classBits {
		case api.JmpJa:
			far := !wide
			return true, far && in == api.Instr{Op: in.Op, Imm: in.Imm} || !far && in == api.Instr{Op: in.Op, Off: in.Off}
		case api.JmpCall:
			return wide, in.Imm >= 1 && in == api.Instr{Op: in.Op, Imm: in.Imm}
		case api.JmpExit:
			return wide, in == api.Instr{Op: in.Op}
		default:
			return isCondition(in), oneSource(in)
		}
	}
}

// rightLoad64 holds both slots of a load of 64 bits against what they must be.
func rightLoad64(in, second api.Instr) bool {
	if in.Off != 0 || second != (api.Instr{Imm: second.Imm}) {
		return false
	}
	return in.Src == 0 || in.Src == fromMap && in.Imm >= 0 && second.Imm == 0
}

func isMem(in api.Instr) bool {
	return in.Op&modeBits == api.ModeMem
}

// isSignedMem: all 64 bits have none left to be widened into.
func isSignedMem(in api.Instr) bool {
	return in.Op&modeBits == api.ModeMemSx && in.Op&sizeBits != api.SizeDw
}

func isSwap(in api.Instr) bool {
	return in.Src == 0 && in.Off == 0 && (in.Imm == 16 || in.Imm == 32 || in.Imm == 64)
}

// rightMov: a register alone is widened.
func rightMov(in api.Instr, wide bool) bool {
	switch in.Off {
	case 0:
		return true
	case 8, 16:
		return readsSrc(in)
	case 32:
		return readsSrc(in) && wide
	}
	return false
}

func readsSrc(in api.Instr) bool {
	return in.Op&api.SrcReg != 0
}

// oneSource tells whether what an instruction does not read, Imm or Src, is 0.
func oneSource(in api.Instr) bool {
	if readsSrc(in) {
		return in.Imm == 0
	}
	return in.Src == 0
}
