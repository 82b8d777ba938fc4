package asm

import (
	"fmt"
	"maps"
	"math"
	"math/big"
	"math/rand"
	"regexp"
	"slices"
	"strconv"
	"strings"
	"testing"

	"hatchway/api"
)

const (
	maxText  = 1 << 18
	maxSlots = 4096
	numbers  = `(0|-?[1-9][0-9]*)`
	regs     = `r([0-9]|1[0-5])`
)

// wantRow is a row of the chapter's table: a line in capitals, and its slots, where all of these are 0.
type wantRow struct {
	line  string
	slots []api.Instr
	reads *regexp.Regexp
}

var wantTable = wantRows()

// wantRows is the chapter's table, written out by the numbers of Op.
func wantRows() []wantRow {
	var all []wantRow
	row := func(line string, slots ...api.Instr) {
		words := strings.NewReplacer(" D", " "+regs, " S", " "+regs, " I", " "+numbers, " O", " "+numbers, " C", " "+numbers, " N", " "+numbers).Replace(line)
		all = append(all, wantRow{line, slots, regexp.MustCompile(`\A` + words + `\z`)})
	}
	alu := func(off int16, table string) {
		for line := range strings.SplitSeq(table, ",") {
			name, ops := nameAndOps(line)
			row(name+" D I", api.Instr{Op: ops[0], Off: off})
			row(name+" D S", api.Instr{Op: ops[1], Off: off})
			row(name+"w D I", api.Instr{Op: ops[2], Off: off})
			row(name+"w D S", api.Instr{Op: ops[3], Off: off})
		}
	}
	alu(0, "add 07 0f 04 0c,sub 17 1f 14 1c,mul 27 2f 24 2c,div 37 3f 34 3c,or 47 4f 44 4c,and 57 5f 54 5c")
	alu(0, "lsh 67 6f 64 6c,rsh 77 7f 74 7c,mod 97 9f 94 9c,xor a7 af a4 ac,mov b7 bf b4 bc,arsh c7 cf c4 cc")
	alu(1, "sdiv 37 3f 34 3c,smod 97 9f 94 9c")
	row("sx8 D S", api.Instr{Op: 0xbf, Off: 8})
	row("sx16 D S", api.Instr{Op: 0xbf, Off: 16})
	row("sx32 D S", api.Instr{Op: 0xbf, Off: 32})
	row("sx8w D S", api.Instr{Op: 0xbc, Off: 8})
	row("sx16w D S", api.Instr{Op: 0xbc, Off: 16})
	row("neg D", api.Instr{Op: 0x87})
	row("negw D", api.Instr{Op: 0x84})
	for _, bits := range []int32{16, 32, 64} {
		row(fmt.Sprintf("bswap%d D", bits), api.Instr{Op: 0xd7, Imm: bits})
		row(fmt.Sprintf("le%d D", bits), api.Instr{Op: 0xd4, Imm: bits})
		row(fmt.Sprintf("be%d D", bits), api.Instr{Op: 0xdc, Imm: bits})
	}
	row("ja O", api.Instr{Op: 0x05})
	row("jal I", api.Instr{Op: 0x06})
	for line := range strings.SplitSeq("jeq 15 1d 16 1e,jgt 25 2d 26 2e,jge 35 3d 36 3e,jset 45 4d 46 4e,jne 55 5d 56 5e,jsgt 65 6d 66 6e,jsge 75 7d 76 7e,jlt a5 ad a6 ae,jle b5 bd b6 be,jslt c5 cd c6 ce,jsle d5 dd d6 de", ",") {
		name, ops := nameAndOps(line)
		row(name+" D I O", api.Instr{Op: ops[0]})
		row(name+" D S O", api.Instr{Op: ops[1]})
		row(name+"w D I O", api.Instr{Op: ops[2]})
		row(name+"w D S O", api.Instr{Op: ops[3]})
	}
	row("call I", api.Instr{Op: 0x85})
	row("exit", api.Instr{Op: 0x95})
	for line := range strings.SplitSeq("ldxb 71,ldxh 69,ldxw 61,ldxdw 79,ldxsb 91,ldxsh 89,ldxsw 81", ",") {
		name, ops := nameAndOps(line)
		row(name+" D S O", api.Instr{Op: ops[0]})
	}
	for line := range strings.SplitSeq("b 72 73,h 6a 6b,w 62 63,dw 7a 7b", ",") {
		name, ops := nameAndOps(line)
		row("st"+name+" D O I", api.Instr{Op: ops[0]})
		row("stx"+name+" D O S", api.Instr{Op: ops[1]})
	}
	row("lddw D N", api.Instr{Op: 0x18}, api.Instr{})
	row("ldmap D I", api.Instr{Op: 0x18, Src: 1}, api.Instr{})
	row("slot C D S O I", api.Instr{})
	return all
}

func nameAndOps(line string) (string, []uint8) {
	words := strings.Fields(line)
	var ops []uint8
	for _, w := range words[1:] {
		op, err := strconv.ParseUint(w, 16, 8)
		if err != nil {
			panic(err)
		}
		ops = append(ops, uint8(op))
	}
	return words[0], ops
}

// numbersOf are the numbers that slots have at the capitals.
func numbersOf(slots []api.Instr) map[byte]int64 {
	s := slots[0]
	n := map[byte]int64{'C': int64(s.Op), 'D': int64(s.Dst), 'S': int64(s.Src), 'O': int64(s.Off), 'I': int64(s.Imm)}
	if len(slots) == 2 {
		n['N'] = int64(uint64(uint32(slots[1].Imm))<<32 | uint64(uint32(s.Imm)))
	}
	return n
}

// filled is the row's line, and its slots, with these numbers at the capitals.
func (r wantRow) filled(n map[byte]int64) (string, []api.Instr) {
	words := strings.Split(r.line, " ")
	slots := slices.Clone(r.slots)
	for i, w := range words[1:] {
		sign := ""
		switch v := n[w[0]]; w {
		case "C":
			slots[0].Op = uint8(v)
		case "D":
			slots[0].Dst, sign = uint8(v), "r"
		case "S":
			slots[0].Src, sign = uint8(v), "r"
		case "O":
			slots[0].Off = int16(v)
		case "I":
			slots[0].Imm = int32(v)
		case "N":
			slots[0].Imm, slots[1].Imm = int32(uint32(v)), int32(uint32(uint64(v)>>32))
		}
		words[i+1] = fmt.Sprintf("%s%d", sign, n[w[0]])
	}
	return strings.Join(words, " "), slots
}

// ends are the least and the greatest number at a capital.
func ends(capital byte) (lo, hi int64) {
	switch capital {
	case 'C':
		return 0, 255
	case 'D', 'S':
		return 0, 15
	case 'O':
		return -1 << 15, 1<<15 - 1
	case 'I':
		return -1 << 31, 1<<31 - 1
	}
	return math.MinInt64, math.MaxInt64
}

// some are numbers at a capital, its ends among them.
func some(capital byte) []int64 {
	lo, hi := ends(capital)
	all := []int64{lo, lo + 1, 0, 1, 2, 9, 10, hi - 1, hi}
	for _, n := range []int64{-1, -2, -9, -10, 8, 16, 24, 32, 64, 99, 100, 149, 255, 256, -1 << 31, 1<<31 - 1, 1 << 31, 1<<32 - 1, 1 << 32, -1 << 32, 1<<32 + 1, 1 << 40, 1 << 62} {
		if lo <= n && n <= hi {
			all = append(all, n)
		}
	}
	slices.Sort(all)
	return slices.Compact(all)
}

// capitals are those of a row's line.
func (r wantRow) capitals() []byte {
	var all []byte
	for _, w := range strings.Split(r.line, " ")[1:] {
		all = append(all, w[0])
	}
	return all
}

// fillings goes through numbers at the row's capitals: each at its ends and between, the others at some of theirs; and all drawn.
func (r wantRow) fillings(yield func(map[byte]int64) bool) {
	draw := rand.New(rand.NewSource(int64(len(r.line))))
	drawn := func() map[byte]int64 {
		n := map[byte]int64{}
		for _, c := range r.capitals() {
			all := some(c)
			n[c] = all[draw.Intn(len(all))]
		}
		return n
	}
	for _, c := range r.capitals() {
		for _, v := range some(c) {
			n := drawn()
			n[c] = v
			if !yield(n) {
				return
			}
		}
	}
	for range 4 {
		if !yield(drawn()) {
			return
		}
	}
}

// book is the table by names and by numbers of Op.
type book struct {
	rows     []wantRow
	byName   map[string][]wantRow
	byNumber [256][]wantRow
}

func newBook() *book {
	b := &book{rows: wantTable, byName: map[string][]wantRow{}}
	last := b.rows[len(b.rows)-1]
	for _, r := range b.rows {
		name, _, _ := strings.Cut(r.line, " ")
		b.byName[name] = append(b.byName[name], r)
		if op := r.slots[0].Op; name != "slot" {
			b.byNumber[op] = append(b.byNumber[op], r)
		}
	}
	for op := range b.byNumber {
		b.byNumber[op] = append(b.byNumber[op], last)
	}
	return b
}

// line is the line of the slots that the program begins with, and how many they are: of the first row that, filled with their numbers, is just they.
func (b *book) line(program []api.Instr) (string, int) {
	for _, r := range b.byNumber[program[0].Op] {
		if n := len(r.slots); n <= len(program) {
			if line, slots := r.filled(numbersOf(program[:n])); slices.Equal(slots, program[:n]) {
				return line, n
			}
		}
	}
	panic("no line")
}

func (b *book) show(program []api.Instr) string {
	var text strings.Builder
	if len(program) > maxSlots {
		return ""
	}
	for _, s := range program {
		if s.Dst > 15 || s.Src > 15 {
			return ""
		}
	}
	for len(program) > 0 {
		line, n := b.line(program)
		text.WriteString(line + "\n")
		program = program[n:]
	}
	return text.String()
}

// slots are those that a line says; none, if it is none of the table.
func (b *book) slots(line string) []api.Instr {
	name, _, _ := strings.Cut(line, " ")
rows:
	for _, r := range b.byName[name] {
		words := r.reads.FindStringSubmatch(line)
		if words == nil {
			continue
		}
		n := map[byte]int64{}
		for i, c := range r.capitals() {
			v, _ := new(big.Int).SetString(words[i+1], 10)
			lo, hi := ends(c)
			if v.Cmp(big.NewInt(lo)) < 0 || v.Cmp(big.NewInt(hi)) > 0 {
				continue rows
			}
			n[c] = v.Int64()
		}
		_, slots := r.filled(n)
		return slots
	}
	return nil
}

func (b *book) parse(text string) ([]api.Instr, int, api.Errno) {
	if len(text) > maxText {
		return nil, 0, api.ErrLong
	}
	var program []api.Instr
	for i, line := range strings.Split(text, "\n") {
		if line == "" {
			continue
		}
		slots := b.slots(line)
		if slots == nil {
			return nil, i + 1, api.ErrText
		}
		program = append(program, slots...)
	}
	if len(program) > maxSlots {
		return nil, 0, api.ErrLong
	}
	return program, 0, api.OK
}

func cut(text string) string { return text[:min(len(text), 80)] }

// firstOther are the first line that two texts do not have alike, of each.
func firstOther(one, other string) (string, string) {
	ones, others := strings.SplitAfter(one, "\n"), strings.SplitAfter(other, "\n")
	for len(ones) > 1 && len(others) > 1 && ones[0] == others[0] {
		ones, others = ones[1:], others[1:]
	}
	return cut(ones[0]), cut(others[0])
}

func checkShow(t *testing.T, program []api.Instr, want string) {
	t.Helper()
	if got := Show(program); got != want {
		line, wantLine := firstOther(got, want)
		t.Errorf("Show of %d slots, %v: %d bytes, %q, want %d, %q", len(program), program[:min(3, len(program))], len(got), line, len(want), wantLine)
	}
}

func checkParse(t *testing.T, text string, want []api.Instr) {
	t.Helper()
	program, at, e := Parse(text)
	if at != 0 || e != api.OK || !slices.Equal(program, want) {
		t.Errorf("Parse of %d bytes, %q: %d slots, %d, %d, %v, want %d, %v", len(text), cut(text), len(program), at, e, program[:min(3, len(program))], len(want), want[:min(3, len(want))])
	}
}

func checkWrong(t *testing.T, text string, wantAt int, want api.Errno) {
	t.Helper()
	if program, at, e := Parse(text); program != nil || at != wantAt || e != want {
		t.Errorf("Parse of %d bytes, %q: %d slots, %d, %d, want none, %d, %d", len(text), cut(text), len(program), at, e, wantAt, want)
	}
}

// checkNoLine: the line is none, wherever it stands.
func checkNoLine(t *testing.T, line string) {
	t.Helper()
	checkWrong(t, line, 1, api.ErrText)
	checkWrong(t, line+"\n", 1, api.ErrText)
	checkWrong(t, "exit\n\nmov r0 1\n"+line+"\nexit\n", 4, api.ErrText)
}

// checkLike holds Parse against the table, whatever the text is.
func checkLike(t *testing.T, b *book, text string) {
	t.Helper()
	if program, at, e := b.parse(text); e == api.OK {
		checkParse(t, text, program)
	} else {
		checkWrong(t, text, at, e)
	}
}

// checkLine: the line says these slots, and they say it.
func checkLine(t *testing.T, line string, slots ...api.Instr) {
	t.Helper()
	checkShow(t, slots, line+"\n")
	checkParse(t, line, slots)
	checkParse(t, line+"\n", slots)
}

func TestTheTable(t *testing.T) {
	b := newBook()
	if len(b.rows) != 138 {
		t.Errorf("the table has %d rows", len(b.rows))
	}
	for _, r := range b.rows {
		for n := range r.fillings {
			line, slots := r.filled(n)
			if got := b.slots(line); !slices.Equal(got, slots) {
				t.Errorf("%q: %v, want %v", line, got, slots)
			}
		}
	}
}

func TestP4_1Examples(t *testing.T) {
	checkLine(t, "mov r0 1", api.Instr{Op: 0xb7, Imm: 1})
	checkLine(t, "exit", api.Instr{Op: 0x95})
	checkLine(t, "addw r1 r2", api.Instr{Op: 0x0c, Dst: 1, Src: 2})
	checkLine(t, "jne r1 -1 3", api.Instr{Op: 0x55, Dst: 1, Off: 3, Imm: -1})
	checkLine(t, "lddw r2 -1", api.Instr{Op: 0x18, Dst: 2, Imm: -1}, api.Instr{Imm: -1})
	checkLine(t, "stxdw r10 -8 r1", api.Instr{Op: 0x7b, Dst: 10, Src: 1, Off: -8})
	checkLine(t, "slot 149 r0 r0 0 1", api.Instr{Op: 0x95, Imm: 1})
}

// Each row, with each number at its ends, is shown by its own line; but slot only what no other says.
func TestP4_1EveryRow(t *testing.T) {
	b := newBook()
	for _, r := range b.rows {
		for n := range r.fillings {
			line, slots := r.filled(n)
			if strings.HasPrefix(line, "slot ") {
				checkShow(t, slots, b.show(slots))
			} else {
				checkShow(t, slots, line+"\n")
			}
		}
	}
}

// changes goes through slots that differ from these in one part.
func changes(slots []api.Instr) func(func([]api.Instr) bool) {
	var ways []func(in *api.Instr)
	for op := range 256 {
		ways = append(ways, func(in *api.Instr) { in.Op = uint8(op) })
	}
	for reg := range 16 {
		ways = append(ways, func(in *api.Instr) { in.Dst = uint8(reg) }, func(in *api.Instr) { in.Src = uint8(reg) })
	}
	for _, n := range []int32{0, 1, -1, 2, 7, 8, 9, 15, 16, 17, 31, 32, 33, 64, 256, math.MaxInt16, math.MinInt16} {
		ways = append(ways, func(in *api.Instr) { in.Off = int16(n) }, func(in *api.Instr) { in.Imm = n })
	}
	for bit := range 32 {
		ways = append(ways, func(in *api.Instr) { in.Imm ^= int32(uint32(1) << bit) }, func(in *api.Instr) { in.Off ^= int16(uint32(1) << bit) })
	}
	return func(yield func([]api.Instr) bool) {
		for i := range slots {
			for _, change := range ways {
				other := slices.Clone(slots)
				change(&other[i])
				if !slices.Equal(other, slots) && !yield(other) {
					return
				}
			}
		}
	}
}

// Each row with each other part turned: another row, or none but slot, says all of it.
func TestP4_1EveryOtherPart(t *testing.T) {
	b := newBook()
	for _, r := range b.rows {
		for _, n := range []map[byte]int64{nil, {'C': 0x95, 'D': 3, 'S': 4, 'O': -5, 'I': 6, 'N': -7 << 30}} {
			_, slots := r.filled(n)
			var program []api.Instr
			for other := range changes(slots) {
				program = append(append(program, other...), api.Instr{Op: 0x95})
			}
			checkShow(t, program, b.show(program))
		}
	}
}

// What no row but slot says, told one by one.
func TestP4_1NoRow(t *testing.T) {
	for line, in := range map[string]api.Instr{
		"slot 7 r1 r2 0 3":                    {Op: 0x07, Dst: 1, Src: 2, Imm: 3},
		"slot 7 r1 r0 1 3":                    {Op: 0x07, Dst: 1, Off: 1, Imm: 3},
		"slot 15 r1 r2 0 3":                   {Op: 0x0f, Dst: 1, Src: 2, Imm: 3},
		"slot 15 r1 r2 1 0":                   {Op: 0x0f, Dst: 1, Src: 2, Off: 1},
		"slot 55 r1 r0 2 3":                   {Op: 0x37, Dst: 1, Off: 2, Imm: 3},
		"slot 55 r1 r0 -1 3":                  {Op: 0x37, Dst: 1, Off: -1, Imm: 3},
		"slot 183 r1 r0 8 0":                  {Op: 0xb7, Dst: 1, Off: 8},
		"slot 191 r1 r2 9 0":                  {Op: 0xbf, Dst: 1, Src: 2, Off: 9},
		"slot 188 r1 r2 32 0":                 {Op: 0xbc, Dst: 1, Src: 2, Off: 32},
		"slot 135 r1 r2 0 0":                  {Op: 0x87, Dst: 1, Src: 2},
		"slot 135 r1 r0 0 1":                  {Op: 0x87, Dst: 1, Imm: 1},
		"slot 143 r1 r0 0 0":                  {Op: 0x8f, Dst: 1},
		"slot 215 r1 r0 0 8":                  {Op: 0xd7, Dst: 1, Imm: 8},
		"slot 215 r1 r0 0 0":                  {Op: 0xd7, Dst: 1},
		"slot 223 r1 r0 0 16":                 {Op: 0xdf, Dst: 1, Imm: 16},
		"slot 212 r1 r1 0 16":                 {Op: 0xd4, Dst: 1, Src: 1, Imm: 16},
		"slot 5 r0 r0 1 1":                    {Op: 0x05, Off: 1, Imm: 1},
		"slot 13 r0 r0 1 0":                   {Op: 0x0d, Off: 1},
		"slot 6 r0 r0 1 1":                    {Op: 0x06, Off: 1, Imm: 1},
		"slot 14 r0 r0 0 1":                   {Op: 0x0e, Imm: 1},
		"slot 21 r1 r2 3 4":                   {Op: 0x15, Dst: 1, Src: 2, Off: 3, Imm: 4},
		"slot 29 r1 r2 3 4":                   {Op: 0x1d, Dst: 1, Src: 2, Off: 3, Imm: 4},
		"slot 229 r1 r0 0 0":                  {Op: 0xe5, Dst: 1},
		"slot 133 r1 r0 0 1":                  {Op: 0x85, Dst: 1, Imm: 1},
		"slot 133 r0 r1 0 1":                  {Op: 0x85, Src: 1, Imm: 1},
		"slot 134 r0 r0 0 1":                  {Op: 0x86, Imm: 1},
		"slot 149 r0 r0 1 0":                  {Op: 0x95, Off: 1},
		"slot 150 r0 r0 0 0":                  {Op: 0x96},
		"slot 157 r0 r0 0 0":                  {Op: 0x9d},
		"slot 153 r1 r2 3 0":                  {Op: 0x99, Dst: 1, Src: 2, Off: 3},
		"slot 113 r1 r2 3 4":                  {Op: 0x71, Dst: 1, Src: 2, Off: 3, Imm: 4},
		"slot 114 r1 r2 3 4":                  {Op: 0x72, Dst: 1, Src: 2, Off: 3, Imm: 4},
		"slot 115 r1 r2 3 4":                  {Op: 0x73, Dst: 1, Src: 2, Off: 3, Imm: 4},
		"slot 24 r1 r0 0 5":                   {Op: 0x18, Dst: 1, Imm: 5},
		"slot 0 r0 r0 0 0":                    {},
		"slot 255 r15 r15 -32768 -2147483648": {Op: 255, Dst: 15, Src: 15, Off: math.MinInt16, Imm: math.MinInt32},
	} {
		checkLine(t, line, in)
	}
}

// Pairs of slots that one line says, and pairs that none does.
func TestP4_1Pairs(t *testing.T) {
	load := func(imm int32) api.Instr { return api.Instr{Op: 0x18, Dst: 2, Imm: imm} }
	ofMap := func(imm int32) api.Instr { return api.Instr{Op: 0x18, Dst: 2, Src: 1, Imm: imm} }
	for line, slots := range map[string][2]api.Instr{
		"lddw r2 0":                     {load(0), {}},
		"lddw r2 1":                     {load(1), {}},
		"lddw r2 2147483647":            {load(math.MaxInt32), {}},
		"lddw r2 2147483648":            {load(math.MinInt32), {}},
		"lddw r2 4294967295":            {load(-1), {}},
		"lddw r2 4294967296":            {load(0), {Imm: 1}},
		"lddw r2 4294967297":            {load(1), {Imm: 1}},
		"lddw r2 9223372036854775807":   {load(-1), {Imm: math.MaxInt32}},
		"lddw r2 -1":                    {load(-1), {Imm: -1}},
		"lddw r2 -2147483648":           {load(math.MinInt32), {Imm: -1}},
		"lddw r2 -2147483649":           {load(math.MaxInt32), {Imm: -1}},
		"lddw r2 -4294967289":           {load(7), {Imm: -1}},
		"lddw r2 -4294967296":           {load(0), {Imm: -1}},
		"lddw r2 -9223372036854775808":  {load(0), {Imm: math.MinInt32}},
		"lddw r15 -9223372036854775807": {{Op: 0x18, Dst: 15, Imm: 1}, {Imm: math.MinInt32}},
		"ldmap r2 0":                    {ofMap(0), {}},
		"ldmap r2 1":                    {ofMap(1), {}},
		"ldmap r2 -1":                   {ofMap(-1), {}},
		"ldmap r2 2147483647":           {ofMap(math.MaxInt32), {}},
		"ldmap r2 -2147483648":          {ofMap(math.MinInt32), {}},
		"ldmap r15 3":                   {{Op: 0x18, Dst: 15, Src: 1, Imm: 3}, {}},
	} {
		checkLine(t, line, slots[:]...)
	}
	b := newBook()
	for _, slots := range [][]api.Instr{
		{load(7), {Dst: 1}}, {load(7), {Src: 1}}, {load(7), {Off: 1}}, {load(7), {Op: 1}}, {load(7), {Op: 0x18}}, {load(7), {Op: 0x95}}, {load(7)},
		{ofMap(7), {Imm: 1}}, {ofMap(7), {Imm: -1}}, {ofMap(7), {Dst: 1}}, {ofMap(7), {Src: 1}}, {ofMap(7), {Off: 1}}, {ofMap(7), {Op: 0x95}}, {ofMap(7)},
		{{Op: 0x18, Src: 2}, {}}, {{Op: 0x18, Src: 15}, {}}, {{Op: 0x18, Off: 1}, {}}, {{Op: 0x18, Src: 1, Off: 1}, {}}, {{Op: 0x10}, {}}, {{Op: 0x19}, {}}, {{}, {}},
	} {
		var want string
		for _, s := range slots {
			line, _ := b.line([]api.Instr{s})
			want += line + "\n"
		}
		checkShow(t, slots, want)
		checkParse(t, want, slots)
	}
}

// Which slots a line says together is told from the first slot on.
func TestP4_1PairsInARow(t *testing.T) {
	load := api.Instr{Op: 0x18, Dst: 1, Imm: 1}
	checkShow(t, []api.Instr{load, load, {}}, "slot 24 r1 r0 0 1\nlddw r1 1\n")
	checkShow(t, []api.Instr{load, {}, {}}, "lddw r1 1\nslot 0 r0 r0 0 0\n")
	checkShow(t, []api.Instr{load, {}, load, {Imm: 1}, load}, "lddw r1 1\nlddw r1 4294967297\nslot 24 r1 r0 0 1\n")
	checkShow(t, []api.Instr{{}, load, {}}, "slot 0 r0 r0 0 0\nlddw r1 1\n")
	checkShow(t, []api.Instr{{Op: 0x18, Src: 1}, {Imm: 1}, {Op: 0x18, Src: 1}, {}, {Op: 0x95}}, "slot 24 r0 r1 0 0\nslot 0 r0 r0 0 1\nldmap r0 0\nexit\n")
}

// Every number of Op meets the edges of all parts, in all ways.
func TestP4_1EveryPart(t *testing.T) {
	b := newBook()
	for op := range 256 {
		for _, dst := range []uint8{0, 1, 15} {
			for _, src := range []uint8{0, 1, 15} {
				var program []api.Instr
				for _, off := range []int16{0, 1, 8, 16, 32, -1, math.MinInt16} {
					for _, imm := range []int32{0, 1, 16, 32, 64, -1, math.MaxInt32} {
						program = append(program, api.Instr{Op: uint8(op), Dst: dst, Src: src, Off: off, Imm: imm})
					}
				}
				checkShow(t, program, b.show(program))
			}
		}
	}
}

func TestP4_1Registers(t *testing.T) {
	program := drawnProgram(rand.New(rand.NewSource(1)), 50)
	program[10], program[11], program[12] = api.Instr{Op: 0x18}, api.Instr{}, api.Instr{Op: 0x0f, Dst: 15, Src: 15}
	checkShow(t, program, newBook().show(program))
	for _, at := range []int{0, 1, 10, 11, 12, 48, 49} {
		for _, reg := range []uint8{16, 17, 31, 32, 128, 255} {
			for _, in := range []api.Instr{{Op: program[at].Op, Dst: reg}, {Op: program[at].Op, Src: reg}, {Dst: reg, Src: reg}} {
				wrong := slices.Clone(program)
				wrong[at] = in
				checkShow(t, wrong, "")
			}
		}
	}
	for reg := range 256 {
		in := api.Instr{Op: 0x0f, Dst: uint8(reg), Src: uint8(reg)}
		want := fmt.Sprintf("add r%d r%d\n", reg, reg)
		if reg > 15 {
			want = ""
		}
		checkShow(t, []api.Instr{in}, want)
	}
}

func TestP4_1Lengths(t *testing.T) {
	checkShow(t, nil, "")
	checkShow(t, []api.Instr{}, "")
	b := newBook()
	draw := rand.New(rand.NewSource(2))
	for _, n := range []int{1, 2, 3, 100, 4095, 4096} {
		program := drawnProgram(draw, n)
		checkShow(t, program, b.show(program))
	}
	exit := api.Instr{Op: 0x95}
	checkShow(t, slices.Repeat([]api.Instr{exit}, 4096), strings.Repeat("exit\n", 4096))
	checkShow(t, slices.Repeat([]api.Instr{{Op: 0x18}, {}}, 2048), strings.Repeat("lddw r0 0\n", 2048))
	checkShow(t, slices.Repeat([]api.Instr{{Op: 0x18}}, 4096), strings.Repeat("slot 24 r0 r0 0 0\n", 4096))
	for _, n := range []int{4097, 4098, 8192, 65536} {
		checkShow(t, slices.Repeat([]api.Instr{exit}, n), "")
		checkShow(t, slices.Repeat([]api.Instr{{Op: 0x18}, {}}, n), "")
	}
}

// drawnProgram draws a program of n slots of all rows, and such that none but slot says.
func drawnProgram(draw *rand.Rand, n int) []api.Instr {
	var program []api.Instr
	for len(program) < n {
		r := wantTable[draw.Intn(len(wantTable))]
		numbers := map[byte]int64{}
		for _, c := range r.capitals() {
			numbers[c] = drawnNumber(draw, c)
		}
		_, slots := r.filled(numbers)
		if draw.Intn(4) == 0 {
			in := &slots[draw.Intn(len(slots))]
			switch draw.Intn(5) {
			case 0:
				in.Op = uint8(draw.Intn(256))
			case 1:
				in.Dst = uint8(draw.Intn(16))
			case 2:
				in.Src = uint8(draw.Intn(16))
			case 3:
				in.Off = int16(drawnNumber(draw, 'O'))
			case 4:
				in.Imm = int32(drawnNumber(draw, 'I'))
			}
		}
		program = append(program, slots...)
	}
	return program[:n]
}

// drawnNumber draws a number of any length, with any sign, that a capital may be.
func drawnNumber(draw *rand.Rand, capital byte) int64 {
	lo, hi := ends(capital)
	for {
		if n := int64(draw.Uint64()) >> draw.Intn(64); lo <= n && n <= hi {
			return n
		}
	}
}

func TestP4_2EveryRow(t *testing.T) {
	for _, r := range wantTable {
		var text strings.Builder
		var program []api.Instr
		for n := range r.fillings {
			line, slots := r.filled(n)
			checkParse(t, line, slots)
			text.WriteString(line + "\n")
			program = append(program, slots...)
		}
		checkParse(t, text.String(), program)
	}
}

// A line says its slots, too, if another line would.
func TestP4_2SlotLines(t *testing.T) {
	checkParse(t, "slot 149 r0 r0 0 0", []api.Instr{{Op: 0x95}})
	checkParse(t, "slot 183 r1 r0 0 5", []api.Instr{{Op: 0xb7, Dst: 1, Imm: 5}})
	checkParse(t, "slot 24 r1 r0 0 5\nslot 0 r0 r0 0 -1", []api.Instr{{Op: 0x18, Dst: 1, Imm: 5}, {Imm: -1}})
	slotLine := func(in api.Instr) string {
		return fmt.Sprintf("slot %d r%d r%d %d %d\n", in.Op, in.Dst, in.Src, in.Off, in.Imm)
	}
	for op := range 256 {
		in := api.Instr{Op: uint8(op), Dst: uint8(op % 16), Src: uint8(op / 16), Off: int16(op - 128), Imm: int32(op) << 20}
		checkParse(t, slotLine(in), []api.Instr{in})
	}
	program := drawnProgram(rand.New(rand.NewSource(3)), 4096)
	var text strings.Builder
	for _, in := range program {
		text.WriteString(slotLine(in))
	}
	checkParse(t, text.String(), program)
}

func TestP4_2Registers(t *testing.T) {
	for reg := range 16 {
		checkParse(t, fmt.Sprintf("neg r%d", reg), []api.Instr{{Op: 0x87, Dst: uint8(reg)}})
		checkParse(t, fmt.Sprintf("mov r0 r%d", reg), []api.Instr{{Op: 0xbf, Src: uint8(reg)}})
		checkParse(t, fmt.Sprintf("stxb r%d 0 r%d", reg, 15-reg), []api.Instr{{Op: 0x73, Dst: uint8(reg), Src: uint8(15 - reg)}})
	}
	for _, word := range []string{"r16", "r17", "r20", "r99", "r100", "r255", "r256", "r4294967296", "r18446744073709551616", "r", "r-1", "r-0", "r+1", "r00", "r01", "r015", "r1 ", "r 1", " r1", "R1", "rr1", "1r", "r1r", "r1.0", "r0x1", "r1_0", "x1", "r١", "", "-r1"} {
		for _, row := range []string{"neg ?", "add ? 1", "mov ? r1", "mov r1 ?x", "jeq ? 1 1", "jeq r1 ?x 1", "ldxb ? r1 0", "ldxb r1 ? 0", "stb ? 0 0", "stxb ? 0 r1", "stxb r1 0 ?", "lddw ? 1", "ldmap ? 1", "slot 1 ? r1 0 0", "slot 1 r1 ? 0 0"} {
			checkNoLine(t, strings.ReplaceAll(strings.ReplaceAll(row, "?x", word), "?", word))
		}
	}
	for reg := 16; reg < 300; reg++ {
		checkNoLine(t, fmt.Sprintf("mov r0 r%d", reg))
	}
}

// Numbers of each sort at their ends, and one past them.
func TestP4_2NumbersEnds(t *testing.T) {
	for _, c := range []struct {
		row    string
		lo, hi string
		past   [2]string
	}{
		{"add r1 %s", "-2147483648", "2147483647", [2]string{"-2147483649", "2147483648"}},
		{"sdivw r1 %s", "-2147483648", "2147483647", [2]string{"-2147483649", "2147483648"}},
		{"jal %s", "-2147483648", "2147483647", [2]string{"-2147483649", "2147483648"}},
		{"call %s", "-2147483648", "2147483647", [2]string{"-2147483649", "2147483648"}},
		{"jeq r1 %s 0", "-2147483648", "2147483647", [2]string{"-2147483649", "2147483648"}},
		{"stdw r1 0 %s", "-2147483648", "2147483647", [2]string{"-2147483649", "2147483648"}},
		{"ldmap r1 %s", "-2147483648", "2147483647", [2]string{"-2147483649", "2147483648"}},
		{"slot 1 r0 r0 0 %s", "-2147483648", "2147483647", [2]string{"-2147483649", "2147483648"}},
		{"ja %s", "-32768", "32767", [2]string{"-32769", "32768"}},
		{"jeq r1 0 %s", "-32768", "32767", [2]string{"-32769", "32768"}},
		{"jslew r1 r2 %s", "-32768", "32767", [2]string{"-32769", "32768"}},
		{"ldxsb r1 r2 %s", "-32768", "32767", [2]string{"-32769", "32768"}},
		{"ldxdw r1 r2 %s", "-32768", "32767", [2]string{"-32769", "32768"}},
		{"stb r1 %s 1", "-32768", "32767", [2]string{"-32769", "32768"}},
		{"stxw r1 %s r1", "-32768", "32767", [2]string{"-32769", "32768"}},
		{"slot 1 r0 r0 %s 0", "-32768", "32767", [2]string{"-32769", "32768"}},
		{"slot %s r0 r0 0 0", "0", "255", [2]string{"-1", "256"}},
		{"lddw r1 %s", "-9223372036854775808", "9223372036854775807", [2]string{"-9223372036854775809", "9223372036854775808"}},
	} {
		b := newBook()
		for _, word := range []string{c.lo, c.hi, "0", "1", "9", "10", "100"} {
			line := fmt.Sprintf(c.row, word)
			checkParse(t, line, b.slots(line))
		}
		for _, word := range []string{c.past[0], c.past[1], "18446744073709551615", "18446744073709551616", "-18446744073709551616", "340282366920938463463374607431768211456", strings.Repeat("9", 5000)} {
			checkNoLine(t, fmt.Sprintf(c.row, word))
		}
		for _, word := range []string{"00", "01", "-0", "-00", "-01", "+0", "+1", "--1", "-", "+", "", " 1", "1 ", "1-", "1.0", "1e1", "0x1", "0b1", "0o1", "1_0", "a", "r", "0r1", "１", "٣", "−1", "1\x00", "1\r", "1\t", "nil", c.lo + "0", c.hi + "0", "0" + c.hi} {
			checkNoLine(t, fmt.Sprintf(c.row, word))
		}
	}
}

func TestP4_2Lines(t *testing.T) {
	exit, ja := api.Instr{Op: 0x95}, api.Instr{Op: 0x05}
	for _, c := range []struct {
		text string
		want []api.Instr
	}{
		{"", nil},
		{"\n", nil},
		{"\n\n\n", nil},
		{"exit", []api.Instr{exit}},
		{"exit\n", []api.Instr{exit}},
		{"exit\n\n", []api.Instr{exit}},
		{"\nexit", []api.Instr{exit}},
		{"\n\nexit\n\n\nja 0\n\n", []api.Instr{exit, ja}},
		{"ja 0\nexit", []api.Instr{ja, exit}},
		{"exit\nja 0\n", []api.Instr{exit, ja}},
		{"lddw r1 0\nexit", []api.Instr{{Op: 0x18, Dst: 1}, {}, exit}},
	} {
		checkParse(t, c.text, c.want)
	}
}

func TestP4_2NoLine(t *testing.T) {
	for _, line := range []string{
		" ", "  ", "\t", "\r", "\x00", "\xff", "exit\r", "exit\t", "exit\x00", "\xffexit", "exit\xff", "\ufeffexit", "exit\v", "exit\f", "exit\u0085", "exit\u00a0", "exit\u2028", "exit;", "# exit", "exit exit",
		" exit", "exit ", "  exit", "exit 0", "exit r0", "Exit", "EXIT", "exi", "exitt", "eexit", "exitw", "e xit",
		"add", "add r1", "add 1", "add r1 r2 r3", "add r1 1 1", "add 1 r1", "add r1  1", "add  r1 1", " add r1 1", "add r1 1 ", "add\tr1\t1", "add r1\t1", "add r1,1", "add r1, 1", "add r1 1\r", "ADD r1 1", "Add r1 1", "add R1 1", "addx r1 1", "addww r1 1", "wadd r1 1", "ad r1 1", "add64 r1 1", "add32 r1 1", "end r1 1", "neg r1 r1", "neg r1 1", "neg 1", "neg", "negw", "negw r1 0",
		"sdiv r1", "smod r1", "sadd r1 1", "smov r1 r2", "sdivww r1 1", "sx8 r1", "sx8 r1 8", "sx8 r1 r2 r3", "sx16 r1 1", "sx32 r1 1", "sx32w r1 r2", "sx64 r1 r2", "sx r1 r2", "sx0 r1 r2", "sx08 r1 r2", "sx 8 r1 r2", "sx8ww r1 r2",
		"bswap r1", "bswap8 r1", "bswap16w r1", "bswap16 r1 r2", "bswap16", "bswap16 16", "bswap 16 r1", "le8 r1", "le16w r1", "be64w r1", "le r1", "be r1", "be16 r1 16", "le16 1", "swap16 r1", "le128 r1", "be016 r1",
		"ja", "ja r1", "ja 0 0", "jaw 0", "jal", "jal r1", "jalw 0", "jal 0 0", "j 0",
		"jeq r1 0", "jeq r1 r2", "jeq 1 r1 0", "jeq r1 0 r1", "jeq r1 r2 r3", "jeq r1 0 0 0", "jeqww r1 0 0", "jne r1", "jeq", "jb r1 0 0", "jz r1 0", "jsetw r1 r2", "jsne r1 0 0", "jseq r1 0 0",
		"call", "call r1", "callw 1", "call 1 1", "call x",
		"ldxb r1 r2", "ldxb r1 0 r2", "ldxb r1 r2 r3", "ldxb r1 0", "ldxb r1 r2 0 0", "ldx r1 r2 0", "ldxq r1 r2 0", "ldxsdw r1 r2 0", "ldxs r1 r2 0", "ldxbw r1 r2 0", "ldb r1 r2 0",
		"stb r1 0", "stb r1 0 r2", "stb r1 r2 0", "stb 0 r1 0", "stxb r1 0 0", "stxb r1 r2 0", "stxb r1 0", "stq r1 0 0", "st r1 0 0", "stx r1 0 r2", "stsb r1 0 0", "stxsb r1 0 r2", "stbw r1 0 0",
		"lddw r1", "lddw 1", "lddw r1 r2", "lddw r1 1 1", "lddw 1 r1", "lddww r1 1", "lddw", "ldmap r1", "ldmap r1 r2", "ldmap r1 1 1", "ldmap", "ldmapw r1 1", "ldd r1 1", "ldw r1 1", "map r1 1",
		"slot", "slot 1", "slot 1 r0 r0 0", "slot 1 r0 r0 0 0 0", "slot 1 0 0 0 0", "slot r1 r0 r0 0 0", "slot 1 r0 0 0 0", "slot 1 r0 r0 r0 0", "slot 1 r0 r0 0 r0", "slotw 1 r0 r0 0 0", "slot 0x18 r0 r0 0 0", "slot b7 r0 r0 0 0", "Slot 1 r0 r0 0 0",
		"w", "b", "-", "-1", "0", "r0", "nop", "ret", "D", "add D I", "mov r0 1;exit", "mov r0 1 exit",
	} {
		checkNoLine(t, line)
	}
}

// Lines of each row of which a byte is turned, put or taken away: most are none.
func TestP4_2TurnedLines(t *testing.T) {
	b := newBook()
	draw := rand.New(rand.NewSource(4))
	letters := "abdehjlmnoqrstwx0123456789- +\n\r\t\x00\xff"
	for _, r := range b.rows {
		line, _ := r.filled(map[byte]int64{'C': 24, 'D': 1, 'S': 10, 'O': -12, 'I': 105, 'N': -1234567890123})
		for i := range len(line) + 1 {
			for range 4 {
				checkLike(t, b, line[:i]+string(letters[draw.Intn(len(letters))])+line[i:])
			}
			if i == len(line) {
				break
			}
			checkLike(t, b, line[:i]+line[i+1:])
			checkLike(t, b, line[:i]+strings.ToUpper(line[i:i+1])+line[i+1:])
			for range 4 {
				checkLike(t, b, line[:i]+string(letters[draw.Intn(len(letters))])+line[i+1:])
			}
			checkLike(t, b, line[:i]+string([]byte{byte(draw.Intn(256))})+line[i+1:])
		}
	}
}

// The words of all rows, mixed: a name with any words.
func TestP4_2MixedWords(t *testing.T) {
	b := newBook()
	draw := rand.New(rand.NewSource(5))
	names := slices.Sorted(maps.Keys(b.byName))
	words := []string{"r0", "r15", "r16", "0", "-1", "255", "256", "32767", "32768", "2147483648", "x", ""}
	for _, name := range names {
		for n := range 7 {
			for range 6 {
				line := []string{name}
				for range n {
					line = append(line, words[draw.Intn(len(words))])
				}
				checkLike(t, b, strings.Join(line, " "))
			}
		}
		for _, one := range words {
			checkLike(t, b, name+" "+one)
			for _, two := range words {
				checkLike(t, b, name+" "+one+" "+two)
			}
		}
	}
}

// Of several lines that are none the first is told; lines of no bytes count.
func TestP4_2FirstWrongLine(t *testing.T) {
	for _, c := range []struct {
		text string
		at   int
	}{
		{"x", 1}, {"x\n", 1}, {"\nx", 2}, {"\n\n\nx\n", 4}, {"exit\nx\ny", 2}, {"exit\n\nexit\n\nx\n\ny", 5}, {"x\ny\nz", 1},
		{"exit\nadd r1\nadd r16 1\nmov", 2}, {"lddw r1 0\nlddw r1 0\nx", 3}, {"lddw r1 0\n\nx", 3}, {"exit\n ", 2}, {"exit\n \n", 2},
	} {
		checkWrong(t, c.text, c.at, api.ErrText)
	}
	for _, at := range []int{1, 2, 3, 999, 1000, 4096, 4097, 5000} {
		lines := slices.Repeat([]string{"exit", ""}, 2500)
		lines[at-1] = "exit 1"
		checkWrong(t, strings.Join(lines, "\n"), at, api.ErrText)
		lines[4999] = "wrong"
		checkWrong(t, strings.Join(lines, "\n"), at, api.ErrText)
	}
}

func TestP4_2TextLengths(t *testing.T) {
	fill := strings.Repeat("\n", maxText-4)
	checkParse(t, fill+"exit", []api.Instr{{Op: 0x95}})
	checkParse(t, "exit"+fill, []api.Instr{{Op: 0x95}})
	checkParse(t, strings.Repeat("\n", maxText), nil)
	checkWrong(t, fill+"exis", maxText-3, api.ErrText)
	checkWrong(t, strings.Repeat("x", maxText), 1, api.ErrText)
	checkWrong(t, strings.Repeat(" ", maxText), 1, api.ErrText)
	checkWrong(t, "call "+strings.Repeat("1", maxText-5), 1, api.ErrText)
	checkWrong(t, "neg r"+strings.Repeat("1", maxText-5), 1, api.ErrText)
	checkWrong(t, "exit"+strings.Repeat(" 1", maxText/2-2), 1, api.ErrText)
	for _, more := range []string{"\n" + fill + "exit", "exit\n" + fill, strings.Repeat("\n", maxText+1), strings.Repeat("x", maxText+1), strings.Repeat("exit\n", maxText), strings.Repeat(" ", 1<<20)} {
		checkWrong(t, more, 0, api.ErrLong)
	}
}

func TestP4_2SlotsLengths(t *testing.T) {
	exit, load := api.Instr{Op: 0x95}, []api.Instr{{Op: 0x18}, {}}
	for _, n := range []int{1, 2, 4095, 4096} {
		checkParse(t, strings.Repeat("exit\n", n), slices.Repeat([]api.Instr{exit}, n))
		checkParse(t, strings.Repeat("\nexit", n), slices.Repeat([]api.Instr{exit}, n))
		checkParse(t, strings.Repeat("lddw r0 0\n", n/2), slices.Repeat(load, n/2))
	}
	checkParse(t, strings.Repeat("lddw r0 0\n", 2047)+"exit\nexit", append(slices.Repeat(load, 2047), exit, exit))
	for _, text := range []string{
		strings.Repeat("exit\n", 4097), strings.Repeat("exit\n", 4096) + "exit", strings.Repeat("exit\n", maxText/5),
		strings.Repeat("lddw r0 0\n", 2048) + "exit", strings.Repeat("lddw r0 0\n", 2049), "exit\n" + strings.Repeat("ldmap r0 0\n", 2048), strings.Repeat("exit\n", 4095) + "lddw r0 0",
		strings.Repeat("slot 0 r0 r0 0 0\n", 4097),
	} {
		checkWrong(t, text, 0, api.ErrLong)
	}
}

// Too many bytes are told ahead of a line that is none, and this ahead of too many slots, even if it comes behind them.
func TestP4_2FirstError(t *testing.T) {
	checkWrong(t, "x\n"+strings.Repeat("exit\n", maxText/5+1), 0, api.ErrLong)
	checkWrong(t, strings.Repeat("exit\n", 4097)+"x", 4098, api.ErrText)
	checkWrong(t, strings.Repeat("exit\n", 8192)+"x\nexit\ny", 8193, api.ErrText)
	checkWrong(t, strings.Repeat("lddw r0 0\n", 4096)+"\nexit 0\n", 4098, api.ErrText)
	checkWrong(t, strings.Repeat("exit\n", 4096)+"exit ", 4097, api.ErrText)
	checkWrong(t, "x\n"+strings.Repeat("exit\n", 4097), 1, api.ErrText)
}

// What is given stays as it is, and what is told shares nothing with it, nor with another answer.
func TestP4_2NewMemory(t *testing.T) {
	program := drawnProgram(rand.New(rand.NewSource(6)), 200)
	before := slices.Clone(program)
	text := Show(program)
	if !slices.Equal(program, before) {
		t.Error("Show changes its argument")
	}
	one, _, _ := Parse(text)
	other, _, _ := Parse(text)
	clear(one)
	clear(program)
	if !slices.Equal(other, before) || Show(before) != text {
		t.Error("answers share memory")
	}
}

// checkBack: what is shown is parsed as it was, and shown again is the same text.
func checkBack(t *testing.T, program []api.Instr) {
	t.Helper()
	text := Show(program)
	if len(text) > maxText || len(program) > 0 && text == "" {
		t.Errorf("Show of %d slots: %d bytes", len(program), len(text))
	}
	checkParse(t, text, program)
}

func TestP4_3EveryRow(t *testing.T) {
	for _, r := range wantTable {
		for n := range r.fillings {
			_, slots := r.filled(n)
			checkBack(t, slots)
		}
	}
}

func TestP4_3EveryPart(t *testing.T) {
	for op := range 256 {
		var program []api.Instr
		for _, reg := range []uint8{0, 1, 10, 15} {
			for _, off := range []int16{0, 1, 8, 16, 32, -1, math.MinInt16, math.MaxInt16} {
				for _, imm := range []int32{0, 1, 16, 32, 64, -1, math.MinInt32, math.MaxInt32} {
					program = append(program, api.Instr{Op: uint8(op), Dst: reg, Src: 15 - reg, Off: off, Imm: imm}, api.Instr{Op: uint8(op), Dst: reg, Off: off, Imm: imm}, api.Instr{Imm: imm})
				}
			}
		}
		checkBack(t, program)
	}
}

func TestP4_3Lengths(t *testing.T) {
	draw := rand.New(rand.NewSource(7))
	for _, n := range []int{0, 1, 2, 3, 10, 500, 4095, 4096} {
		checkBack(t, drawnProgram(draw, n))
	}
	for range 500 {
		checkBack(t, drawnProgram(draw, draw.Intn(12)))
	}
	checkBack(t, slices.Repeat([]api.Instr{{Op: 255, Dst: 15, Src: 15, Off: math.MinInt16, Imm: math.MinInt32}}, maxSlots)) // the longest lines
	checkBack(t, slices.Repeat([]api.Instr{{Op: 0x18, Dst: 15, Imm: 0}, {Imm: math.MinInt32}}, maxSlots/2))
}

// Programs of loads' slots, right and wrong ones, in any order.
func TestP4_3Pairs(t *testing.T) {
	draw := rand.New(rand.NewSource(8))
	alphabet := []api.Instr{{}, {Imm: 1}, {Imm: -1}, {Dst: 1}, {Op: 0x18}, {Op: 0x18, Imm: -1}, {Op: 0x18, Src: 1}, {Op: 0x18, Src: 2}, {Op: 0x18, Off: 1}, {Op: 0x95}}
	b := newBook()
	for range 3000 {
		program := make([]api.Instr, draw.Intn(8))
		for i := range program {
			program[i] = alphabet[draw.Intn(len(alphabet))]
		}
		checkShow(t, program, b.show(program))
		checkBack(t, program)
	}
}

// Texts that are parsed, shown and parsed again; slot lines stand for what other lines would say, and make pairs.
func TestP4_3Texts(t *testing.T) {
	draw := rand.New(rand.NewSource(9))
	for range 500 {
		var text strings.Builder
		for range draw.Intn(20) {
			r := wantTable[draw.Intn(len(wantTable))]
			if draw.Intn(3) == 0 {
				r = wantTable[len(wantTable)-1]
			}
			numbers := map[byte]int64{}
			for _, c := range r.capitals() {
				all := some(c)
				numbers[c] = all[draw.Intn(len(all))]
			}
			line, _ := r.filled(numbers)
			text.WriteString(line + "\n")
		}
		program, at, e := Parse(text.String())
		if at != 0 || e != api.OK {
			t.Errorf("Parse(%q): %d, %d", cut(text.String()), at, e)
		}
		checkBack(t, program)
	}
}
