package code

import (
	"bytes"
	"encoding/binary"
	"math"
	"math/rand"
	"slices"
	"testing"

	"hatchway/api"
)

const maxBytes = 8 * 4096

// bytesOf is the chapter's words on a slot's bytes, by the library's own numbers as bytes.
func bytesOf(program []api.Instr) []byte {
	var b []byte
	for _, s := range program {
		b = append(b, s.Op, s.Dst+16*s.Src)
		b = binary.LittleEndian.AppendUint16(b, uint16(s.Off))
		b = binary.LittleEndian.AppendUint32(b, uint32(s.Imm))
	}
	return b
}

// edgeSlots are slots of all edges of each part, together.
func edgeSlots() []api.Instr {
	var all []api.Instr
	for _, op := range []uint8{0, 1, 0x18, 0xb7, 0xff} {
		for _, dst := range []uint8{0, 1, 10, 15} {
			for _, src := range []uint8{0, 2, 11, 15} {
				for _, off := range []int16{0, 1, -1, -2, 0x1234, 255, 256, -256, math.MaxInt16, math.MinInt16} {
					for _, imm := range []int32{0, 1, -1, 258, 0x12345678, 65535, 65536, -65536, 1 << 24, math.MaxInt32, math.MinInt32} {
						all = append(all, api.Instr{Op: op, Dst: dst, Src: src, Off: off, Imm: imm})
					}
				}
			}
		}
	}
	return all
}

// program is one of n slots that differ, all parts of them.
func program(n int) []api.Instr {
	draw := rand.New(rand.NewSource(int64(n)))
	all := make([]api.Instr, n)
	for i := range all {
		all[i] = api.Instr{Op: uint8(i), Dst: uint8(draw.Intn(16)), Src: uint8(draw.Intn(16)), Off: int16(draw.Uint32()), Imm: int32(draw.Uint32())}
	}
	return all
}

func checkPut(t *testing.T, slots []api.Instr, want []byte) {
	t.Helper()
	if b, e := Put(slots...); e != api.OK || !bytes.Equal(b, want) {
		t.Errorf("Put of %d slots, first %v: %x, %v, want %x", len(slots), slots[:min(1, len(slots))], b, e, want)
	}
}

func checkGet(t *testing.T, b []byte, want []api.Instr) {
	t.Helper()
	if slots, e := Get(b); e != api.OK || !slices.Equal(slots, want) {
		t.Errorf("Get of %d bytes, %x: %v, %v, want %v", len(b), b[:min(8, len(b))], slots, e, want)
	}
}

func checkPutError(t *testing.T, slots []api.Instr, want api.Errno) {
	t.Helper()
	if b, e := Put(slots...); e != want || b != nil {
		t.Errorf("Put of %d slots: %d bytes, %v, want none and %v", len(slots), len(b), e, want)
	}
}

func checkGetError(t *testing.T, b []byte, want api.Errno) {
	t.Helper()
	if slots, e := Get(b); e != want || slots != nil {
		t.Errorf("Get of %d bytes: %d slots, %v, want none and %v", len(b), len(slots), e, want)
	}
}

func TestP2_1Places(t *testing.T) {
	for _, c := range []struct {
		slot api.Instr
		want [8]byte
	}{
		{api.Instr{}, [8]byte{}},
		{api.Instr{Op: 0xb7, Dst: 1, Src: 2, Off: -2, Imm: 258}, [8]byte{0xb7, 0x21, 0xfe, 0xff, 2, 1, 0, 0}},
		{api.Instr{Op: 0xa5}, [8]byte{0xa5}},
		{api.Instr{Op: 0xff}, [8]byte{0xff}},
		{api.Instr{Dst: 1}, [8]byte{0, 0x01}},
		{api.Instr{Dst: 15}, [8]byte{0, 0x0f}},
		{api.Instr{Src: 1}, [8]byte{0, 0x10}},
		{api.Instr{Src: 15}, [8]byte{0, 0xf0}},
		{api.Instr{Dst: 15, Src: 15}, [8]byte{0, 0xff}},
		{api.Instr{Off: 0x1234}, [8]byte{0, 0, 0x34, 0x12}},
		{api.Instr{Off: 1}, [8]byte{0, 0, 1, 0}},
		{api.Instr{Off: 256}, [8]byte{0, 0, 0, 1}},
		{api.Instr{Off: -1}, [8]byte{0, 0, 0xff, 0xff}},
		{api.Instr{Off: math.MaxInt16}, [8]byte{0, 0, 0xff, 0x7f}},
		{api.Instr{Off: math.MinInt16}, [8]byte{0, 0, 0, 0x80}},
		{api.Instr{Imm: 0x12345678}, [8]byte{0, 0, 0, 0, 0x78, 0x56, 0x34, 0x12}},
		{api.Instr{Imm: 1}, [8]byte{0, 0, 0, 0, 1}},
		{api.Instr{Imm: -1}, [8]byte{0, 0, 0, 0, 0xff, 0xff, 0xff, 0xff}},
		{api.Instr{Imm: -2}, [8]byte{0, 0, 0, 0, 0xfe, 0xff, 0xff, 0xff}},
		{api.Instr{Imm: math.MaxInt32}, [8]byte{0, 0, 0, 0, 0xff, 0xff, 0xff, 0x7f}},
		{api.Instr{Imm: math.MinInt32}, [8]byte{0, 0, 0, 0, 0, 0, 0, 0x80}},
	} {
		checkPut(t, []api.Instr{c.slot}, c.want[:])
		checkGet(t, c.want[:], []api.Instr{c.slot})
	}
}

// Any Op, register up to 15, Off and Imm is right: what they mean is no matter of this layer.
func TestP2_1Edges(t *testing.T) {
	for _, s := range edgeSlots() {
		one := []api.Instr{s}
		checkPut(t, one, bytesOf(one))
		checkGet(t, bytesOf(one), one)
	}
	for op := range 256 {
		checkPut(t, []api.Instr{{Op: uint8(op)}}, []byte{uint8(op), 0, 0, 0, 0, 0, 0, 0})
	}
	for off := math.MinInt16; off <= math.MaxInt16; off++ {
		one := []api.Instr{{Off: int16(off)}}
		checkPut(t, one, bytesOf(one))
		checkGet(t, bytesOf(one), one)
	}
}

func TestP2_1None(t *testing.T) {
	checkPut(t, nil, nil)
	checkPut(t, []api.Instr{}, nil)
	checkGet(t, nil, nil)
	checkGet(t, []byte{}, nil)
}

// One behind the other, up to 4096 slots and no more.
func TestP2_1Lengths(t *testing.T) {
	for _, n := range []int{1, 2, 3, 16, 4095, 4096} {
		checkPut(t, program(n), bytesOf(program(n)))
		checkGet(t, bytesOf(program(n)), program(n))
	}
	for _, n := range []int{4097, 4098, 8192, 65536} {
		checkPutError(t, program(n), api.ErrLong)
		checkGetError(t, bytesOf(program(n)), api.ErrLong)
	}
}

func TestP2_1PutWrongRegister(t *testing.T) {
	for n := range 256 {
		for _, s := range []api.Instr{{Dst: uint8(n)}, {Src: uint8(n)}, {Dst: 15, Src: uint8(n)}, {Dst: uint8(n), Src: 15}, {Dst: uint8(n), Src: uint8(n)}} {
			if n <= 15 {
				checkPut(t, []api.Instr{s}, bytesOf([]api.Instr{s}))
			} else {
				checkPutError(t, []api.Instr{s}, api.ErrReg)
			}
		}
	}
}

// Each slot must be right, wherever it stands.
func TestP2_1PutWrongRegisterAnywhere(t *testing.T) {
	for _, at := range []int{0, 1, 2047, 4094, 4095} {
		for _, wrong := range []api.Instr{{Dst: 16}, {Src: 16}, {Dst: 255, Src: 255}} {
			slots := program(4096)
			slots[at] = wrong
			checkPutError(t, slots, api.ErrReg)
		}
	}
}

func TestP2_1PutLongIsFirst(t *testing.T) {
	for _, at := range []int{0, 1, 4095, 4096} {
		slots := program(4097)
		slots[at].Dst, slots[at].Src = 16, 255
		checkPutError(t, slots, api.ErrLong)
	}
}

func TestP2_1GetLengths(t *testing.T) {
	row := make([]byte, maxBytes+64)
	check := func(n int) {
		switch {
		case n > maxBytes:
			checkGetError(t, row[:n], api.ErrLong)
		case n%8 != 0:
			checkGetError(t, row[:n], api.ErrShape)
		default:
			checkGet(t, row[:n], make([]api.Instr, n/8))
		}
	}
	for n := range 200 {
		check(n)
	}
	for n := maxBytes - 64; n <= maxBytes+64; n++ { // of more than the limit no multiple of eight is ErrLong too
		check(n)
	}
}

// What is given stays as it is, and what is told shares nothing with it, nor with another answer.
func TestP2_1NewMemory(t *testing.T) {
	slots := program(100)
	before := slices.Clone(slots)
	one, _ := Put(slots...)
	other, _ := Put(slots...)
	clear(one)
	if !slices.Equal(slots, before) || !bytes.Equal(other, bytesOf(before)) {
		t.Error("Put's answers share memory")
	}
	row := bytesOf(before)
	got, _ := Get(row)
	again, _ := Get(row)
	clear(got)
	if !bytes.Equal(row, bytesOf(before)) || !slices.Equal(again, before) {
		t.Error("Get's answers share memory")
	}
	clear(row)
	if !slices.Equal(again, before) {
		t.Error("Get keeps its argument")
	}
}

// checkRow: every eight bytes are one right slot's.
func checkRow(t *testing.T, row []byte) {
	t.Helper()
	slots, e := Get(row)
	if e != api.OK || len(slots) != 1 || slots[0].Dst > 15 || slots[0].Src > 15 {
		t.Errorf("Get(%x) = %v, %v", row, slots, e)
		return
	}
	if b, e := Put(slots...); e != api.OK || !bytes.Equal(b, row) {
		t.Errorf("Put of the slot %v of %x: %x, %v", slots[0], row, b, e)
	}
}

func TestP2_2EveryRow(t *testing.T) {
	for place := range 8 {
		for n := range 256 {
			for _, rest := range []byte{0, 0xff} {
				row := bytes.Repeat([]byte{rest}, 8)
				row[place] = byte(n)
				checkRow(t, row)
			}
		}
	}
	draw := rand.New(rand.NewSource(2))
	for range 20000 {
		checkRow(t, binary.LittleEndian.AppendUint64(nil, draw.Uint64()))
	}
}

func TestP2_2EverySlot(t *testing.T) {
	for _, s := range append(edgeSlots(), program(4096)...) {
		b, e := Put(s)
		if e != api.OK || len(b) != 8 {
			t.Errorf("Put(%v) = %x, %v", s, b, e)
		}
		checkGet(t, b, []api.Instr{s})
	}
	for n := range 256 { // both registers, in all ways
		s := api.Instr{Dst: uint8(n % 16), Src: uint8(n / 16)}
		b, _ := Put(s)
		checkGet(t, b, []api.Instr{s})
	}
}

func TestP2_2WholePrograms(t *testing.T) {
	for _, n := range []int{0, 1, 2, 100, 4095, 4096} {
		b, e := Put(program(n)...)
		if e != api.OK || len(b) != 8*n {
			t.Errorf("Put of %d slots: %d bytes, %v", n, len(b), e)
		}
		checkGet(t, b, program(n))
	}
}
