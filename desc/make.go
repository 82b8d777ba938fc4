package desc

import (
	"slices"

	"hatchway/api"
	"hatchway/wire"
)

// maker makes lists. The kids of all lists that are not whole yet stand in one row, those of the innermost one last.
type maker struct{ kids []wire.Tree }

// list puts the list of the kids that parts puts.
func (m *maker) list(parts func()) {
	first := len(m.kids)
	parts()
	whole := wire.Row(m.kids[first:]...)
	m.kids = append(m.kids[:first], whole)
}

func (m *maker) text(s string) {
	m.kids = append(m.kids, wire.Text(s))
}

func (m *maker) flag(is bool) {
	n := 0
	if is {
		n = 1
	}
	putNumbers(m, n)
}

func putNumbers[N integer](m *maker, all ...N) {
	for _, n := range all {
		m.kids = append(m.kids, wire.Of(int64(n)))
	}
}

// putRow puts the list of a row's things, each of which put puts.
func putRow[T any](m *maker, row []T, put func(T)) {
	m.list(func() {
		for t := range slices.Values(row) {
			put(t)
		}
	})
}

func (m *maker) table(t api.Table) {
	m.list(func() {
		m.text(t.Provider)
		putRow(m, t.Types, m.progType)
		putRow(m, t.Helpers, m.helper)
	})
}

func (m *maker) progType(t api.ProgType) {
	m.list(func() {
		m.text(t.Name)
		putNumbers(m, t.Ctx)
		putRow(m, t.Fields, m.field)
		putRow(m, t.Needs, m.need)
		putNumbers(m, t.Lo, t.Hi)
	})
}

func (m *maker) field(f api.Field) {
	m.list(func() {
		putNumbers(m, f.Off, f.Size)
		putNumbers(m, f.Kind)
		m.flag(f.Write)
	})
}

func (m *maker) need(n api.Need) {
	m.list(func() { putNumbers(m, n.Helper, n.Major, n.Minor) })
}

func (m *maker) helper(h api.Helper) {
	m.list(func() {
		putNumbers(m, h.Id, h.Major, h.Minor)
		putNumbers(m, h.Core)
		putRow(m, h.Args, m.arg)
		m.ret(h.Ret)
	})
}

func (m *maker) arg(a api.Arg) {
	m.list(func() {
		putNumbers(m, a.Kind)
		putNumbers(m, a.Lo, a.Hi)
		putRow(m, a.Maps, m.mapKind)
	})
}

func (m *maker) mapKind(k api.MapKind) {
	putNumbers(m, k)
}

func (m *maker) ret(r api.Ret) {
	m.list(func() {
		putNumbers(m, r.Kind)
		putNumbers(m, r.Lo, r.Hi)
		putNumbers(m, r.Size)
	})
}
