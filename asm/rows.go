package asm

import (
	"iter"
	"strconv"

	"hatchway/api"
)

const classBits = 0x07 // of Op

// pair is as many slots as a line may say.
type pair [2]api.Instr

// row is a row of the table of lines: a name, the parts that the words behind it say, one capital each, and what else its slots are.
type row struct {
	name  string
	parts string
	slots pair
	size  int // how many slots it says
}

// table holds rows by what they are looked for with, those of one key one behind the other.
type table[K comparable] map[K][]row

// tableOf makes a table of all rows. It is made anew for each call: package level may hold no map.
func tableOf[K comparable](key func(row) K) table[K] {
	t := table[K]{}
	for r := range rows {
		k := key(r)
		t[k] = append(t[k], r)
	}
	return t
}

func byNames() table[string] {
	return tableOf(func(r row) string { return r.name })
}

func byNumbers() table[uint8] {
	return tableOf(func(r row) uint8 { return r.slots[0].Op })
}

// read tells the slots that the words behind the row's name say; false, if they are not its own.
func (r row) read(words []string) ([]api.Instr, bool) {
	if len(words) != len(r.parts) {
		return nil, false
	}
	slots := r.slots
	for i, capital := range r.parts {
		p := partOf(capital)
		n, ok := p.read(words[i])
		if !ok {
			return nil, false
		}
		p.set(&slots, n)
	}
	return slots[:r.size], true
}

// show tells the words that say the slots that the program begins with; false, if the row does not say all of them.
func (r row) show(program []api.Instr) ([]string, bool) {
	if len(program) < r.size {
		return nil, false
	}
	var unsaid pair
	copy(unsaid[:r.size], program)
	words := []string{r.name}
	for _, capital := range r.parts {
		p := partOf(capital)
		words = append(words, p.show(p.get(unsaid)))
		p.set(&unsaid, 0)
	}
	if unsaid != r.slots {
		return nil, false
	}
	return words, true
}

// rows goes through the table of lines. Ahead of the last one no two say the same slots, so that each may stand anywhere there.
func rows(yield func(row) bool) {
	groups := []iter.Seq[row]{
		narrowToo(api.ClassAlu, arithmetic),
		wideAlone,
		jumps,
		narrowToo(api.ClassJmp32, conditions),
		calls,
		accesses,
		signedLoads,
		loads,
	}
	for _, group := range groups {
		for r := range group {
			if !yield(r) {
				return
			}
		}
	}
	yield(anySlot())
}

// narrowToo goes through rows, and behind each the same one of that class, with a w behind the name.
func narrowToo(class uint8, wide iter.Seq[row]) iter.Seq[row] {
	return func(yield func(row) bool) {
		for r := range wide {
			narrow := r
			narrow.name += "w"
			narrow.slots[0].Op = r.slots[0].Op&^classBits | class
			if !yield(r) || !yield(narrow) {
				return
			}
		}
	}
}

// offer yields rows, one by one, while more are asked for; false, if no more are.
func offer(yield func(row) bool, all ...row) bool {
	for _, r := range all {
		if !yield(r) {
			return false
		}
	}
	return true
}

// one makes a row that says one slot.
func one(name, parts string, slot api.Instr) row {
	return row{name, parts, pair{slot}, 1}
}

// anySlot is the last row, which says every slot.
func anySlot() row {
	return one("slot", "CDSOI", api.Instr{})
}

func arithmetic(yield func(row) bool) {
	for n := range operations() {
		op := n.bits | api.ClassAlu64
		if !offer(yield,
			one(n.text, "DI", api.Instr{Op: op}),
			one(n.text, "DS", api.Instr{Op: op | api.SrcReg})) {
			return
		}
	}
	for n := range signedOperations() {
		op := n.bits | api.ClassAlu64
		if !offer(yield,
			one(n.text, "DI", api.Instr{Op: op, Off: 1}),
			one(n.text, "DS", api.Instr{Op: op | api.SrcReg, Off: 1})) {
			return
		}
	}
	offer(yield, widening(8), widening(16), one("neg", "D", api.Instr{Op: api.ClassAlu64 | api.AluNeg}))
}

// wideAlone goes through the rows of arithmetic that have none with a w: a low part has no more than 32 bits to be widened, and an order is of as many bits as it says.
func wideAlone(yield func(row) bool) {
	if !yield(widening(32)) {
		return
	}
	for n := range orders() {
		if !offer(yield, ordering(n, 16), ordering(n, 32), ordering(n, 64)) {
			return
		}
	}
}

func widening(bits int16) row {
	return one("sx"+strconv.Itoa(int(bits)), "DS", api.Instr{Op: api.ClassAlu64 | api.AluMov | api.SrcReg, Off: bits})
}

func ordering(n name, bits int32) row {
	return one(n.text+strconv.Itoa(int(bits)), "D", api.Instr{Op: n.bits, Imm: bits})
}

func jumps(yield func(row) bool) {
	offer(yield,
		one("ja", "O", api.Instr{Op: api.ClassJmp | api.JmpJa}),
		one("jal", "I", api.Instr{Op: api.ClassJmp32 | api.JmpJa}))
}

func conditions(yield func(row) bool) {
	for n := range comparisons() {
		op := n.bits | api.ClassJmp
		if !offer(yield,
			one(n.text, "DIO", api.Instr{Op: op}),
			one(n.text, "DSO", api.Instr{Op: op | api.SrcReg})) {
			return
		}
	}
}

func calls(yield func(row) bool) {
	offer(yield,
		one("call", "I", api.Instr{Op: api.ClassJmp | api.JmpCall}),
		one("exit", "", api.Instr{Op: api.ClassJmp | api.JmpExit}))
}

func accesses(yield func(row) bool) {
	for n := range sizes() {
		if !offer(yield,
			one("ldx"+n.text, "DSO", api.Instr{Op: api.ClassLdx | api.ModeMem | n.bits}),
			one("st"+n.text, "DOI", api.Instr{Op: api.ClassSt | api.ModeMem | n.bits}),
			one("stx"+n.text, "DOS", api.Instr{Op: api.ClassStx | api.ModeMem | n.bits})) {
			return
		}
	}
}

// signedLoads goes through loads that widen: all 64 bits have none left to be widened into.
func signedLoads(yield func(row) bool) {
	for n := range sizes() {
		if n.bits == api.SizeDw {
			continue
		}
		if !yield(one("ldxs"+n.text, "DSO", api.Instr{Op: api.ClassLdx | api.ModeMemSx | n.bits})) {
			return
		}
	}
}

func loads(yield func(row) bool) {
	const op = api.ClassLd | api.ModeImm | api.SizeDw
	offer(yield,
		row{"lddw", "DN", pair{{Op: op}}, 2},
		row{"ldmap", "DI", pair{{Op: op, Src: 1}}, 2})
}
