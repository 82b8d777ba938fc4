package shape

import (
	"math"
	"math/rand"
	"slices"
	"testing"

	"hatchway/api"
)

const none = -1

var exitSlot = api.Instr{Op: 0x95}

// need is the chapter's words on what an instruction's parts must be, apart from its registers and where it leads.
type need struct {
	written bool // Dst
	fits    func(in api.Instr) bool
}

func within[N comparable](n N, all ...N) bool { return slices.Contains(all, n) }

// wantNeeds is the chapter's table, written out by the numbers of Op.
func wantNeeds() map[uint8]need {
	t := map[uint8]need{}
	row := func(written bool, fits func(in api.Instr) bool, ops ...uint8) {
		for _, op := range ops {
			t[op] = need{written, fits}
		}
	}
	row(true, func(in api.Instr) bool { return in.Off == 0 && (in.Src == 0 || in.Src == 1 && in.Imm >= 0) }, 0x18)
	row(true, func(in api.Instr) bool { return in.Imm == 0 }, 0x61, 0x69, 0x71, 0x79, 0x81, 0x89, 0x91)
	row(false, func(in api.Instr) bool { return in.Src == 0 }, 0x62, 0x6a, 0x72, 0x7a)
	row(false, func(in api.Instr) bool { return in.Imm == 0 }, 0x63, 0x6b, 0x73, 0x7b)
	// add sub mul or and lsh rsh xor arsh
	row(true, func(in api.Instr) bool { return in.Src == 0 && in.Off == 0 }, 0x04, 0x14, 0x24, 0x44, 0x54, 0x64, 0x74, 0xa4, 0xc4, 0x07, 0x17, 0x27, 0x47, 0x57, 0x67, 0x77, 0xa7, 0xc7)
	row(true, func(in api.Instr) bool { return in.Imm == 0 && in.Off == 0 }, 0x0c, 0x1c, 0x2c, 0x4c, 0x5c, 0x6c, 0x7c, 0xac, 0xcc, 0x0f, 0x1f, 0x2f, 0x4f, 0x5f, 0x6f, 0x7f, 0xaf, 0xcf)
	// div mod
	row(true, func(in api.Instr) bool { return in.Src == 0 && within(in.Off, 0, 1) }, 0x34, 0x94, 0x37, 0x97)
	row(true, func(in api.Instr) bool { return in.Imm == 0 && within(in.Off, 0, 1) }, 0x3c, 0x9c, 0x3f, 0x9f)
	// mov
	row(true, func(in api.Instr) bool { return in.Src == 0 && in.Off == 0 }, 0xb4, 0xb7)
	row(true, func(in api.Instr) bool { return in.Imm == 0 && within(in.Off, 0, 8, 16) }, 0xbc)
	row(true, func(in api.Instr) bool { return in.Imm == 0 && within(in.Off, 0, 8, 16, 32) }, 0xbf)
	// neg; end
	row(true, func(in api.Instr) bool { return in.Src == 0 && in.Off == 0 && in.Imm == 0 }, 0x84, 0x87)
	row(true, func(in api.Instr) bool { return in.Src == 0 && in.Off == 0 && within(in.Imm, 16, 32, 64) }, 0xd4, 0xdc, 0xd7)
	// conditions
	row(false, func(in api.Instr) bool { return in.Src == 0 }, 0x15, 0x25, 0x35, 0x45, 0x55, 0x65, 0x75, 0xa5, 0xb5, 0xc5, 0xd5, 0x16, 0x26, 0x36, 0x46, 0x56, 0x66, 0x76, 0xa6, 0xb6, 0xc6, 0xd6)
	row(false, func(in api.Instr) bool { return in.Imm == 0 }, 0x1d, 0x2d, 0x3d, 0x4d, 0x5d, 0x6d, 0x7d, 0xad, 0xbd, 0xcd, 0xdd, 0x1e, 0x2e, 0x3e, 0x4e, 0x5e, 0x6e, 0x7e, 0xae, 0xbe, 0xce, 0xde)
	// ja, jal, call, exit
	row(false, func(in api.Instr) bool { return in.Dst == 0 && in.Src == 0 && in.Imm == 0 }, 0x05)
	row(false, func(in api.Instr) bool { return in.Dst == 0 && in.Src == 0 && in.Off == 0 }, 0x06)
	row(false, func(in api.Instr) bool { return in.Dst == 0 && in.Src == 0 && in.Off == 0 && in.Imm >= 1 }, 0x85)
	row(false, func(in api.Instr) bool { return in.Dst == 0 && in.Src == 0 && in.Off == 0 && in.Imm == 0 }, 0x95)
	return t
}

// wantTarget is where an instruction of the table jumps to from at; none, if it is no jump.
func wantTarget(at int, in api.Instr) int {
	switch {
	case in.Op == 0x06:
		return at + 1 + int(in.Imm)
	case in.Op == 0x85 || in.Op == 0x95 || in.Op%8 != 5 && in.Op%8 != 6:
		return none
	}
	return at + 1 + int(in.Off)
}

// isFirst tells of each slot whether it is an instruction's first one.
func isFirst(program []api.Instr) []bool {
	all := make([]bool, len(program))
	for at := 0; at < len(program); at++ {
		all[at] = true
		if program[at].Op == 0x18 {
			at++
		}
	}
	return all
}

// wantFault is the error of the instruction at that first slot.
func wantFault(needs map[uint8]need, program []api.Instr, at int) api.Errno {
	in := program[at]
	n, ok := needs[in.Op]
	if !ok {
		return api.ErrOpcode
	}
	if in.Dst > 10 || in.Src > 10 || in.Dst == 10 && n.written {
		return api.ErrReg
	}
	if !n.fits(in) {
		return api.ErrField
	}
	if in.Op == 0x18 {
		if at+1 == len(program) {
			return api.ErrJump
		}
		if s := program[at+1]; s.Op != 0 || s.Dst != 0 || s.Src != 0 || s.Off != 0 || in.Src == 1 && s.Imm != 0 {
			return api.ErrField
		}
		return api.OK
	}
	if n := in.Op % 8; (n == 5 || n == 6) && in.Op != 0x85 && in.Op != 0x95 {
		if to := wantTarget(at, in); to < 0 || to >= len(program) || !isFirst(program)[to] {
			return api.ErrJump
		}
	}
	return api.OK
}

func wantCheck(needs map[uint8]need, program []api.Instr) (int, api.Errno) {
	if len(program) < 1 || len(program) > 4096 {
		return 0, api.ErrLong
	}
	last := uint8(0)
	for at, is := range isFirst(program) {
		if !is {
			continue
		}
		if e := wantFault(needs, program, at); e != api.OK {
			return at, e
		}
		last = program[at].Op
	}
	if !within(last, 0x95, 0x05, 0x06) {
		return len(program) - 1, api.ErrEnd
	}
	return 0, api.OK
}

func some(program []api.Instr) []api.Instr { return program[:min(6, len(program))] }

func checkAs(t *testing.T, program []api.Instr, wantAt int, want api.Errno) {
	t.Helper()
	if at, e := Check(program); at != wantAt || e != want {
		t.Errorf("Check of %d slots, %v: %d, %d, want %d, %d", len(program), some(program), at, e, wantAt, want)
	}
}

func checkLikeTable(t *testing.T, needs map[uint8]need, program []api.Instr) {
	t.Helper()
	at, e := wantCheck(needs, program)
	checkAs(t, program, at, e)
}

// program is one of n slots: instructions that may be anywhere, and an exit.
func program(n int) []api.Instr {
	all := make([]api.Instr, n)
	for i := range all {
		all[i] = api.Instr{Op: 0xb7, Dst: uint8(i % 10), Imm: int32(i)}
	}
	if n > 0 {
		all[n-1] = exitSlot
	}
	return all
}

// with is a program of so many slots that has those from at on.
func with(n, at int, slots ...api.Instr) []api.Instr {
	all := program(n)
	copy(all[at:], slots)
	return all
}

// right is an instruction of that Op that may be anywhere, with its second slot, if it has one.
func right(op uint8) []api.Instr {
	in := api.Instr{Op: op}
	switch op {
	case 0x18:
		return []api.Instr{in, {}}
	case 0xd4, 0xdc, 0xd7:
		in.Imm = 16
	case 0x85:
		in.Imm = 1
	}
	return []api.Instr{in}
}

func TestP3_1Examples(t *testing.T) {
	one := api.Instr{Op: 0xb7, Imm: 1}
	checkAs(t, []api.Instr{one, exitSlot}, 0, api.OK)
	checkAs(t, []api.Instr{{Op: 0x95, Imm: 1}}, 0, api.ErrField)
	checkAs(t, []api.Instr{{Op: 0x05}}, 0, api.ErrJump)
	checkAs(t, []api.Instr{one}, 0, api.ErrEnd)
}

func TestP3_1EveryOp(t *testing.T) {
	needs := wantNeeds()
	if len(needs) != 1+7+4+4+27+26+25+23 {
		t.Errorf("the table has %d numbers", len(needs))
	}
	for op := range 256 {
		slots := right(uint8(op))
		if _, ok := needs[uint8(op)]; ok {
			checkAs(t, append(slots, exitSlot), 0, api.OK)
			checkAs(t, append(program(5)[:4], append(slots, exitSlot)...), 0, api.OK)
		} else {
			checkAs(t, append(slots, exitSlot), 0, api.ErrOpcode)
			checkAs(t, append(program(5)[:4], append(slots, exitSlot)...), 4, api.ErrOpcode)
		}
	}
}

// Each number of Op meets the edges of all parts, in all ways.
func TestP3_1EveryPart(t *testing.T) {
	needs := wantNeeds()
	for op := range needs {
		for _, dst := range []uint8{0, 1, 9, 10, 11, 255} {
			for _, src := range []uint8{0, 1, 2, 9, 10, 11, 255} {
				for _, off := range []int16{0, 1, -1, 2, 7, 8, 9, 15, 16, 17, 31, 32, 33, 64, math.MaxInt16, math.MinInt16} {
					for _, imm := range []int32{0, 1, -1, 2, 15, 16, 17, 31, 32, 33, 63, 64, 65, math.MaxInt32, math.MinInt32} {
						checkLikeTable(t, needs, with(5, 1, append([]api.Instr{{Op: op, Dst: dst, Src: src, Off: off, Imm: imm}}, right(op)[1:]...)...))
					}
				}
			}
		}
	}
}

// Each part alone, beside a right instruction, with all its numbers.
func TestP3_1EveryPartAlone(t *testing.T) {
	needs := wantNeeds()
	for op := range needs {
		in := right(op)[0]
		tail := append(right(op)[1:], exitSlot)
		check := func(in api.Instr) {
			t.Helper()
			checkLikeTable(t, needs, append([]api.Instr{in}, tail...))
		}
		for n := range 256 {
			for _, one := range []api.Instr{{Dst: uint8(n)}, {Src: uint8(n)}, {Dst: uint8(n), Src: 10}, {Dst: 10, Src: uint8(n)}} {
				check(api.Instr{Op: in.Op, Dst: one.Dst, Src: one.Src, Off: in.Off, Imm: in.Imm})
			}
			check(api.Instr{Op: in.Op, Src: 1, Off: in.Off, Imm: int32(n - 128)})
		}
		for n := -300; n <= 300; n++ {
			check(api.Instr{Op: in.Op, Off: int16(n), Imm: in.Imm})
			check(api.Instr{Op: in.Op, Off: in.Off, Imm: int32(n)})
		}
		for bit := range 32 {
			check(api.Instr{Op: in.Op, Off: int16(uint32(1) << bit), Imm: in.Imm})
			check(api.Instr{Op: in.Op, Off: in.Off, Imm: int32(uint32(1) << bit)})
		}
	}
}

func TestP3_1Registers(t *testing.T) {
	for _, c := range []struct {
		in   api.Instr
		want api.Errno
	}{
		{api.Instr{Op: 0xb7, Dst: 9}, api.OK}, {api.Instr{Op: 0xb7, Dst: 10}, api.ErrReg}, {api.Instr{Op: 0xb7, Dst: 11}, api.ErrReg},
		{api.Instr{Op: 0xb4, Dst: 9}, api.OK}, {api.Instr{Op: 0xb4, Dst: 10}, api.ErrReg}, {api.Instr{Op: 0x84, Dst: 10}, api.ErrReg},
		{api.Instr{Op: 0xd7, Dst: 10, Imm: 16}, api.ErrReg}, {api.Instr{Op: 0xd4, Dst: 10, Imm: 16}, api.ErrReg},
		{api.Instr{Op: 0xbf, Dst: 1, Src: 10}, api.OK}, {api.Instr{Op: 0xbf, Dst: 1, Src: 11}, api.ErrReg}, {api.Instr{Op: 0xbf, Dst: 10, Src: 1}, api.ErrReg},
		{api.Instr{Op: 0x79, Dst: 1, Src: 10}, api.OK}, {api.Instr{Op: 0x79, Dst: 10, Src: 1}, api.ErrReg}, {api.Instr{Op: 0x81, Dst: 10, Src: 1}, api.ErrReg},
		{api.Instr{Op: 0x7a, Dst: 10}, api.OK}, {api.Instr{Op: 0x7a, Dst: 11}, api.ErrReg},
		{api.Instr{Op: 0x7b, Dst: 10, Src: 10}, api.OK}, {api.Instr{Op: 0x7b, Dst: 10, Src: 11}, api.ErrReg}, {api.Instr{Op: 0x7b, Dst: 11, Src: 10}, api.ErrReg},
		{api.Instr{Op: 0x1d, Dst: 10, Src: 10}, api.OK}, {api.Instr{Op: 0x1d, Dst: 10, Src: 11}, api.ErrReg}, {api.Instr{Op: 0x1e, Dst: 11}, api.ErrReg},
		{api.Instr{Op: 0x85, Imm: 1, Dst: 10}, api.ErrField}, {api.Instr{Op: 0x85, Imm: 1, Dst: 11}, api.ErrReg}, {api.Instr{Op: 0x95, Src: 10}, api.ErrField}, {api.Instr{Op: 0x95, Src: 11}, api.ErrReg},
		{api.Instr{Op: 0xff, Dst: 11, Src: 11}, api.ErrOpcode}, {api.Instr{Op: 0xb7, Dst: 10, Src: 1, Off: 1}, api.ErrReg}, {api.Instr{Op: 0xb7, Src: 255}, api.ErrReg},
	} {
		at := 2
		if c.want == api.OK {
			at = 0
		}
		checkAs(t, with(4, 2, c.in), at, c.want)
	}
}

func TestP3_1Load64(t *testing.T) {
	check := func(first, second api.Instr, want api.Errno) {
		t.Helper()
		at := 1
		if want == api.OK {
			at = 0
		}
		first.Op = 0x18
		checkAs(t, with(4, 1, first, second), at, want)
	}
	for _, imm := range []int32{0, 1, -1, 0x18, math.MaxInt32, math.MinInt32} {
		check(api.Instr{Dst: 9, Imm: imm}, api.Instr{}, api.OK)
		check(api.Instr{Imm: 5}, api.Instr{Imm: imm}, api.OK)
		check(api.Instr{Imm: 5}, api.Instr{Imm: imm, Op: 1}, api.ErrField)
	}
	for _, imm := range []int32{0, 1, 31, math.MaxInt32} {
		check(api.Instr{Src: 1, Imm: imm}, api.Instr{}, api.OK)
		check(api.Instr{Src: 1, Imm: imm}, api.Instr{Imm: 1}, api.ErrField)
		check(api.Instr{Src: 1, Imm: imm}, api.Instr{Imm: -1}, api.ErrField)
		check(api.Instr{Src: 1, Imm: -imm - 1}, api.Instr{}, api.ErrField)
	}
	check(api.Instr{Src: 2}, api.Instr{}, api.ErrField)
	check(api.Instr{Src: 10}, api.Instr{}, api.ErrField)
	check(api.Instr{Off: 1}, api.Instr{}, api.ErrField)
	for n := 1; n < 256; n++ { // a wrong register of a second slot is a part that is not 0, like any other
		check(api.Instr{}, api.Instr{Op: uint8(n)}, api.ErrField)
		check(api.Instr{}, api.Instr{Dst: uint8(n)}, api.ErrField)
		check(api.Instr{}, api.Instr{Src: uint8(n)}, api.ErrField)
		check(api.Instr{}, api.Instr{Off: int16(n - 256)}, api.ErrField)
		check(api.Instr{Src: 1}, api.Instr{Src: uint8(n)}, api.ErrField)
	}
	check(api.Instr{Dst: 10}, api.Instr{Op: 1}, api.ErrReg)
	check(api.Instr{Src: 11}, api.Instr{Op: 1}, api.ErrReg)
}

// A load of 64 bits as the last slot lacks its second one; what is wrong with the slot itself is told first.
func TestP3_1Load64IsLast(t *testing.T) {
	for _, n := range []int{1, 2, 7, 4096} {
		for _, c := range []struct {
			in   api.Instr
			want api.Errno
		}{
			{api.Instr{Op: 0x18, Dst: 9, Imm: -1}, api.ErrJump},
			{api.Instr{Op: 0x18, Src: 1}, api.ErrJump},
			{api.Instr{Op: 0x18, Off: 1}, api.ErrField},
			{api.Instr{Op: 0x18, Src: 1, Imm: -1}, api.ErrField},
			{api.Instr{Op: 0x18, Dst: 10, Off: 1}, api.ErrReg},
		} {
			checkAs(t, with(n, n-1, c.in), n-1, c.want)
		}
	}
	checkAs(t, []api.Instr{{Op: 0x18}, {}}, 1, api.ErrEnd)
	checkAs(t, []api.Instr{{Op: 0x18}, {}, {Op: 0x18}}, 2, api.ErrJump)
	checkAs(t, []api.Instr{{Op: 0x18}, {}, exitSlot}, 0, api.OK)
	checkAs(t, []api.Instr{{Op: 0x18}, exitSlot}, 0, api.ErrField)
}

// jumpTo is a jump of that Op that leads from at to that slot.
func jumpTo(op uint8, at, to int) api.Instr {
	if op == 0x06 {
		return api.Instr{Op: op, Imm: int32(to - at - 1)}
	}
	return api.Instr{Op: op, Off: int16(to - at - 1)}
}

// jumpOps are the numbers of Op of all jumps.
func jumpOps() []uint8 {
	var all []uint8
	for op := range wantNeeds() {
		if n := op % 8; (n == 5 || n == 6) && op != 0x85 && op != 0x95 {
			all = append(all, op)
		}
	}
	slices.Sort(all)
	return all
}

// Every jump from every place to every slot, and to those around the program; second slots are ahead and behind.
func TestP3_1Jumps(t *testing.T) {
	const n = 10
	for _, op := range jumpOps() {
		for at := range n - 1 {
			for to := -3; to <= n+2; to++ {
				slots := program(n)
				var second []int
				for _, load := range []int{2, 6} {
					if at != load && at != load+1 {
						slots[load], slots[load+1] = api.Instr{Op: 0x18, Dst: 1}, api.Instr{}
						second = append(second, load+1)
					}
				}
				slots[at] = jumpTo(op, at, to)
				if to < 0 || to >= n || slices.Contains(second, to) {
					checkAs(t, slots, at, api.ErrJump)
				} else {
					checkAs(t, slots, 0, api.OK)
				}
			}
		}
	}
}

func TestP3_1FarJumps(t *testing.T) {
	const n = 4096
	for _, op := range jumpOps() {
		for _, c := range []struct{ at, to int }{{0, 0}, {0, n - 1}, {0, n}, {0, -1}, {n - 2, 0}, {n - 2, -1}, {n - 2, n - 1}, {n - 2, n}, {2048, 0}, {2048, 2048}, {2048, 2049}} {
			slots := with(n, c.at, jumpTo(op, c.at, c.to))
			if c.to < 0 || c.to >= n {
				checkAs(t, slots, c.at, api.ErrJump)
			} else {
				checkAs(t, slots, 0, api.OK)
			}
		}
	}
	for _, far := range []int32{math.MaxInt32, math.MinInt32, 1 << 16, -1 << 16, math.MaxInt16, math.MinInt16, n, -n} { // no number wraps round into the program
		checkAs(t, with(n, 5, api.Instr{Op: 0x06, Imm: far}), 5, api.ErrJump)
	}
	for _, far := range []int16{math.MaxInt16, math.MinInt16, n, -n} {
		checkAs(t, with(n, 5, api.Instr{Op: 0x05, Off: far}), 5, api.ErrJump)
		checkAs(t, with(n, 5, api.Instr{Op: 0x15, Off: far}), 5, api.ErrJump)
	}
	checkAs(t, with(n, 5, api.Instr{Op: 0x16, Imm: math.MaxInt32}, api.Instr{Op: 0x15, Imm: math.MinInt32}), 0, api.OK) // Imm of a condition is no target
}

// Second slots are told from the first slot on, by Op alone.
func TestP3_1SecondSlots(t *testing.T) {
	load := api.Instr{Op: 0x18}
	checkAs(t, []api.Instr{load, load, exitSlot}, 0, api.ErrField)
	checkAs(t, []api.Instr{load, {}, load, {}, exitSlot}, 0, api.OK)
	checkAs(t, []api.Instr{{Op: 0x05, Off: 1}, {Op: 0x18, Off: 9}, {}, exitSlot}, 0, api.ErrJump)
	checkAs(t, []api.Instr{{Op: 0x05, Off: 1}, {Op: 0x18, Dst: 11}, exitSlot}, 0, api.ErrJump)
	checkAs(t, []api.Instr{{Op: 0x05, Off: 2}, load, load, load, {}, exitSlot}, 1, api.ErrField)
	checkAs(t, []api.Instr{{Op: 0x05, Off: 3}, load, load, load, {}, exitSlot}, 0, api.ErrJump)
	checkAs(t, []api.Instr{load, {}, {Op: 0x05, Off: -2}}, 2, api.ErrJump)
	checkAs(t, []api.Instr{load, {}, {Op: 0x05, Off: -3}}, 0, api.OK)
	checkAs(t, []api.Instr{load, {}, {Op: 0x06, Imm: -2}}, 2, api.ErrJump)
	checkAs(t, []api.Instr{load, {}, {Op: 0x06, Imm: -3}}, 0, api.OK)
}

func TestP3_1Lengths(t *testing.T) {
	checkAs(t, nil, 0, api.ErrLong)
	checkAs(t, []api.Instr{}, 0, api.ErrLong)
	for _, n := range []int{1, 2, 3, 4095, 4096} {
		checkAs(t, program(n), 0, api.OK)
	}
	for _, n := range []int{4097, 4098, 8192, 65536 + 1} {
		checkAs(t, program(n), 0, api.ErrLong)
		checkAs(t, make([]api.Instr, n), 0, api.ErrLong)
	}
	checkAs(t, with(4097, 3, api.Instr{Op: 0xff}), 0, api.ErrLong)
	checkAs(t, with(4096, 4093, api.Instr{Op: 0x18}, api.Instr{}), 0, api.OK)
	checkAs(t, with(4096, 4094, api.Instr{Op: 0x18}, api.Instr{}), 4095, api.ErrEnd)
}

// The last instruction is an exit, or a jump that always is.
func TestP3_1Ends(t *testing.T) {
	for op := range wantNeeds() {
		slots := append(program(3), right(op)...)
		switch op {
		case 0x95:
			checkAs(t, slots, 0, api.OK)
		case 0x05, 0x06:
			slots[3] = jumpTo(op, 3, 0)
			checkAs(t, slots, 0, api.OK)
			slots[3] = jumpTo(op, 3, 3)
			checkAs(t, slots, 0, api.OK)
		default:
			if slices.Contains(jumpOps(), op) {
				slots[3] = jumpTo(op, 3, 0)
			}
			checkAs(t, slots, len(slots)-1, api.ErrEnd)
		}
	}
	for _, n := range []int{1, 2, 4096} {
		checkAs(t, with(n, n-1, api.Instr{Op: 0xb7}), n-1, api.ErrEnd)
		checkAs(t, with(n, n-1, api.Instr{Op: 0x97, Imm: 1}), n-1, api.ErrEnd)
		checkAs(t, with(n, n-1, api.Instr{Op: 0x85, Imm: 1}), n-1, api.ErrEnd)
		checkAs(t, with(n, n-1, api.Instr{Op: 0x05, Off: -1}), 0, api.OK)
	}
}

// Of one instruction's errors the first in order is told; of several instructions' the first one's, whichever it is.
func TestP3_1FirstError(t *testing.T) {
	wrong := []struct {
		in api.Instr
		e  api.Errno
	}{
		{api.Instr{Op: 0x0d, Dst: 11, Imm: 1, Off: 99}, api.ErrOpcode},
		{api.Instr{Op: 0x15, Dst: 11, Src: 1, Off: 99}, api.ErrReg},
		{api.Instr{Op: 0x05, Src: 11, Imm: 1, Off: 99}, api.ErrReg},
		{api.Instr{Op: 0x15, Dst: 1, Src: 1, Off: 99}, api.ErrField},
		{api.Instr{Op: 0x05, Imm: 1, Off: 99}, api.ErrField},
		{api.Instr{Op: 0x06, Imm: 99, Off: 99}, api.ErrField},
		{api.Instr{Op: 0x15, Dst: 1, Off: 99}, api.ErrJump},
	}
	for _, one := range wrong {
		checkAs(t, with(6, 2, one.in), 2, one.e)
		checkAs(t, with(6, 5, one.in), 5, one.e) // ahead of ErrEnd
		for _, other := range wrong {
			checkAs(t, with(6, 2, one.in, other.in), 2, one.e)
			checkAs(t, with(6, 0, one.in, exitSlot, exitSlot, exitSlot, exitSlot, other.in), 0, one.e)
		}
	}
}

// alphabet has slots that are right here and wrong there.
func alphabet() []api.Instr {
	return []api.Instr{
		{}, exitSlot, {Op: 0xb7, Imm: 1}, {Op: 0x18, Imm: 7}, {Op: 0x18, Src: 1}, {Imm: 3}, {Op: 0x05, Off: -2}, {Op: 0x05}, {Op: 0x05, Off: 1},
		{Op: 0x06, Imm: -3}, {Op: 0x06, Imm: 2}, {Op: 0x15, Off: 1}, {Op: 0x1e, Off: -2}, {Op: 0x85, Imm: 1}, {Op: 0xbf, Dst: 10}, {Op: 0x95, Dst: 1},
	}
}

// smallPrograms goes through all programs of up to four slots of the alphabet.
func smallPrograms(yield func([]api.Instr) bool) {
	all := alphabet()
	for n, size := 0, 1; n <= 4; n, size = n+1, size*len(all) {
		for i := range size {
			slots := make([]api.Instr, n)
			for at := range slots {
				slots[at] = all[i%len(all)]
				i /= len(all)
			}
			if !yield(slots) {
				return
			}
		}
	}
}

func TestP3_1SmallPrograms(t *testing.T) {
	needs := wantNeeds()
	for slots := range smallPrograms {
		checkLikeTable(t, needs, slots)
	}
}

// rightProgram draws a program of about n slots that Check takes, with many jumps.
func rightProgram(draw *rand.Rand, n int) []api.Instr {
	var ops []uint8
	for op := range wantNeeds() {
		ops = append(ops, op)
	}
	slices.Sort(ops)
	jumps := jumpOps()
	var slots []api.Instr
	for len(slots) < n-1 {
		if draw.Intn(2) == 0 {
			slots = append(slots, api.Instr{Op: jumps[draw.Intn(len(jumps))]})
		} else {
			slots = append(slots, right(ops[draw.Intn(len(ops))])...)
		}
	}
	slots = append(slots, []api.Instr{exitSlot, {Op: 0x05}, {Op: 0x06}}[draw.Intn(3)])
	var first []int
	for at, is := range isFirst(slots) {
		if is {
			first = append(first, at)
		}
	}
	for _, at := range first {
		if slices.Contains(jumps, slots[at].Op) {
			slots[at] = jumpTo(slots[at].Op, at, first[draw.Intn(len(first))])
		}
	}
	return slots
}

// wantWays is what Next must tell of each slot of a program that Check takes.
func wantWays(slots []api.Instr) [][2]int {
	var all [][2]int
	for at, is := range isFirst(slots) {
		way := [2]int{none, none}
		if in := slots[at]; is {
			if in.Op == 0x18 {
				way[0] = at + 2
			} else if !within(in.Op, 0x95, 0x05, 0x06) {
				way[0] = at + 1
			}
			way[1] = wantTarget(at, in)
		}
		all = append(all, way)
	}
	return all
}

func wantTargets(slots []api.Instr) []int {
	var all []int
	for _, way := range wantWays(slots) {
		if way[1] != none {
			all = append(all, way[1])
		}
	}
	slices.Sort(all)
	return slices.Compact(all)
}

func checkNext(t *testing.T, slots []api.Instr, at int, want [2]int) {
	t.Helper()
	if next, jump := Next(slots, at); next != want[0] || jump != want[1] {
		t.Errorf("Next(%d) of %d slots, %v: %d, %d, want %v", at, len(slots), some(slots), next, jump, want)
	}
}

// checkWays holds all that is told of a program that Check takes.
func checkWays(t *testing.T, slots []api.Instr) {
	t.Helper()
	if got, want := Targets(slots), wantTargets(slots); !slices.Equal(got, want) {
		t.Errorf("Targets of %v: %v, want %v", slots, got, want)
	}
	want := wantWays(slots)
	if got := Ways(slots); !slices.Equal(got, want) {
		t.Errorf("Ways of %v: %v, want %v", slots, got, want)
	}
	for at, way := range want {
		checkNext(t, slots, at, way)
	}
	for _, at := range []int{-1, -2, math.MinInt, len(slots), len(slots) + 1, math.MaxInt} {
		checkNext(t, slots, at, [2]int{none, none})
	}
}

// checkNoWays: of a program that Check does not take nothing is told.
func checkNoWays(t *testing.T, slots []api.Instr) {
	t.Helper()
	if got := Targets(slots); len(got) != 0 {
		t.Errorf("Targets of %d slots, %v: %v", len(slots), some(slots), got)
	}
	if got := Ways(slots); len(got) != 0 {
		t.Errorf("Ways of %d slots, %v: %d", len(slots), some(slots), len(got))
	}
	for _, at := range []int{-1, 0, 1, 2, 3, len(slots) - 1, len(slots)} {
		checkNext(t, slots, at, [2]int{none, none})
	}
}

func TestP3_2Ways(t *testing.T) {
	slots := []api.Instr{
		{Op: 0x18}, {}, // 0
		{Op: 0x15, Off: 4},  // 2: to 7
		{Op: 0x1e, Off: -4}, // 3: to 0
		{Op: 0x85, Imm: 1},  // 4
		{Op: 0x16, Imm: -7}, // 5: to 6
		{Op: 0x05, Off: 2},  // 6: to 9
		{Op: 0x06, Imm: -6}, // 7: to 2
		exitSlot,            // 8
		{Op: 0x97, Imm: 5},  // 9: no exit
		{Op: 0x05, Off: -1}, // 10: to itself
	}
	want := [][2]int{{2, -1}, {-1, -1}, {3, 7}, {4, 0}, {5, -1}, {6, 6}, {-1, 9}, {-1, 2}, {-1, -1}, {10, -1}, {-1, 10}}
	checkAs(t, slots, 0, api.OK)
	if got := Ways(slots); !slices.Equal(got, want) {
		t.Errorf("Ways: %v", got)
	}
	for at, way := range want {
		checkNext(t, slots, at, way)
	}
	if got := Targets(slots); !slices.Equal(got, []int{0, 2, 6, 7, 9, 10}) {
		t.Errorf("Targets: %v", got)
	}
}

func TestP3_2Targets(t *testing.T) {
	for _, c := range []struct {
		slots []api.Instr
		want  []int
	}{
		{[]api.Instr{exitSlot}, nil},
		{[]api.Instr{{Op: 0x85, Imm: 1}, {Op: 0x18}, {}, exitSlot}, nil},
		{[]api.Instr{{Op: 0x05, Off: -1}}, []int{0}},
		{[]api.Instr{{Op: 0x06, Imm: -1}}, []int{0}},
		{[]api.Instr{{Op: 0x15, Off: 2}, {Op: 0x25, Off: 1}, {Op: 0x36}, exitSlot}, []int{3}},
		{[]api.Instr{{Op: 0x15, Off: 2}, {Op: 0x25, Off: 0}, {Op: 0x36, Off: -2}, {Op: 0x05, Off: -4}}, []int{0, 1, 2, 3}},
	} {
		checkAs(t, c.slots, 0, api.OK)
		if got := Targets(c.slots); !slices.Equal(got, c.want) {
			t.Errorf("Targets of %v: %v, want %v", c.slots, got, c.want)
		}
	}
}

func TestP3_2EveryOp(t *testing.T) {
	for op := range wantNeeds() {
		slots := append(program(3), append(right(op), exitSlot)...)
		if slices.Contains(jumpOps(), op) {
			slots[3] = jumpTo(op, 3, 1)
		}
		checkAs(t, slots, 0, api.OK)
		checkWays(t, slots)
	}
}

func TestP3_2RightPrograms(t *testing.T) {
	draw := rand.New(rand.NewSource(3))
	for n := range 300 {
		slots := rightProgram(draw, 1+n/4)
		checkAs(t, slots, 0, api.OK)
		checkWays(t, slots)
	}
	slots := rightProgram(draw, 4090)
	checkAs(t, slots, 0, api.OK)
	if !slices.Equal(Ways(slots), wantWays(slots)) || !slices.Equal(Targets(slots), wantTargets(slots)) {
		t.Error("Ways, Targets of a long program")
	}
}

func TestP3_2SmallPrograms(t *testing.T) {
	for slots := range smallPrograms {
		if _, e := Check(slots); e == api.OK {
			checkWays(t, slots)
		} else {
			checkNoWays(t, slots)
		}
	}
}

func TestP3_2WrongPrograms(t *testing.T) {
	checkNoWays(t, nil)
	checkNoWays(t, []api.Instr{})
	checkNoWays(t, with(4097, 0, api.Instr{Op: 0x15, Off: 1}))
	jump := api.Instr{Op: 0x15, Off: 1}
	for _, wrong := range []api.Instr{{Op: 0xff}, {Op: 0xb7, Dst: 10}, {Op: 0xb7, Off: 1}, {Op: 0x05, Off: 9}} {
		checkNoWays(t, with(8, 0, jump, jump, jump, jump, jump, jump, wrong))
	}
	checkNoWays(t, with(4, 0, jump, jump, jump, api.Instr{Op: 0xb7}))
}

// What is given stays as it is, and what is told shares nothing with it, nor with another answer.
func TestP3_2NewMemory(t *testing.T) {
	slots := rightProgram(rand.New(rand.NewSource(4)), 100)
	before := slices.Clone(slots)
	one, other := Ways(slots), Ways(slots)
	clear(one)
	oneTargets, otherTargets := Targets(slots), Targets(slots)
	clear(oneTargets)
	if !slices.Equal(slots, before) || !slices.Equal(other, wantWays(before)) || !slices.Equal(otherTargets, wantTargets(before)) {
		t.Error("answers share memory")
	}
	clear(slots)
	if !slices.Equal(other, wantWays(before)) || !slices.Equal(otherTargets, wantTargets(before)) {
		t.Error("the argument is kept")
	}
}

// checkWalk goes all ways from the first slot on; each ends at an exit, or goes round.
func checkWalk(t *testing.T, slots []api.Instr) {
	t.Helper()
	first := isFirst(slots)
	met := make([]bool, len(slots))
	for wait := []int{0}; len(wait) > 0; {
		at := wait[len(wait)-1]
		wait = wait[:len(wait)-1]
		if at < 0 || at >= len(slots) || !first[at] {
			t.Fatalf("%v: a way leads to %d", slots, at)
		}
		if met[at] {
			continue
		}
		met[at] = true
		next, jump := Next(slots, at)
		if exits := slots[at].Op == 0x95; exits != (next == none && jump == none) {
			t.Fatalf("%v: %d, %d behind %d", slots, next, jump, at)
		}
		for _, to := range []int{next, jump} {
			if to != none {
				wait = append(wait, to)
			}
		}
	}
}

func TestP3_3SmallPrograms(t *testing.T) {
	taken := 0
	for slots := range smallPrograms {
		if _, e := Check(slots); e == api.OK {
			checkWalk(t, slots)
			taken++
		}
	}
	if taken < 1000 {
		t.Errorf("%d programs are taken", taken)
	}
}

func TestP3_3RightPrograms(t *testing.T) {
	draw := rand.New(rand.NewSource(5))
	for n := range 300 {
		checkWalk(t, rightProgram(draw, 1+n/3))
	}
}

// Programs of which some slots were changed: those that are still taken keep the promise.
func TestP3_3ChangedPrograms(t *testing.T) {
	draw := rand.New(rand.NewSource(6))
	needs := wantNeeds()
	for range 20000 {
		slots := rightProgram(draw, 2+draw.Intn(12))
		for range 1 + draw.Intn(2) {
			in := &slots[draw.Intn(len(slots))]
			switch draw.Intn(5) {
			case 0:
				in.Op = uint8(draw.Intn(256))
			case 1:
				in.Dst = uint8(draw.Intn(12))
			case 2:
				in.Src = uint8(draw.Intn(12))
			case 3:
				in.Off = int16(draw.Intn(30) - 15)
			case 4:
				in.Imm = int32(draw.Intn(30) - 15)
			}
		}
		checkLikeTable(t, needs, slots)
		if _, e := Check(slots); e == api.OK {
			checkWalk(t, slots)
		}
	}
}
