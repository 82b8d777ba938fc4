package wire

// place is where a row of trees lies: rows of one place are one row. (Rows without trees are all of one place.)
type place struct {
	first *Tree
	count int
}

// level is a list that depth stands in.
type level struct {
	at   place
	left []Tree // its kids whose depth is not known yet
	deep int    // of the deepest of the others
}

// depth tells how deep the list of these trees is; false, unless each tree in it, at any depth, fits, and no list is in itself.
// What is given may be far deeper than calls may be, and one row may stand in many lists, or in itself: so it keeps the lists that it stands in, and goes into each row once.
func depth(row []Tree, fits func(Tree) bool) (int, bool) {
	const inside = 0 // stands for the depth of a list that was not left yet
	known := map[place]int{placeOf(row): inside}
	path := []level{levelOf(row)}
	for len(path) > 0 {
		last := &path[len(path)-1]
		if len(last.left) == 0 {
			known[last.at] = 1 + last.deep
			path = path[:len(path)-1]
			continue
		}
		kid := last.left[0]
		if !fits(kid) {
			return 0, false
		}
		if kid.Kind == List || len(kid.Kids) > 0 {
			at := placeOf(kid.Kids)
			deep, met := known[at]
			if !met { // the kid stays the first of those that are left, till it is known
				known[at] = inside
				path = append(path, levelOf(kid.Kids))
				continue
			}
			if deep == inside {
				return 0, false
			}
			last.deep = max(last.deep, deep)
		}
		last.left = last.left[1:]
	}
	return known[placeOf(row)], true
}

func levelOf(row []Tree) level {
	return level{at: placeOf(row), left: row}
}

func placeOf(row []Tree) place {
	if len(row) == 0 {
		return place{}
	}
	return place{first: &row[0], count: len(row)}
}

func anyTree(Tree) bool {
	return true
}

// sound tells whether a tree is of a kind, and has none of the parts that its kind does not name.
func sound(t Tree) bool {
	switch t.Kind {
	case Number:
		return len(t.Bytes) == 0 && len(t.Kids) == 0
	case Bytes:
		return t.Num == 0 && len(t.Kids) == 0
	case List:
		return t.Num == 0 && len(t.Bytes) == 0
	}
	return false
}

// copied tells trees like these in new memory. No list of them is in itself.
func copied(row []Tree) []Tree {
	all := newRow(row)
	for waiting := [][]Tree{all}; len(waiting) > 0; {
		last := waiting[len(waiting)-1]
		waiting = waiting[:len(waiting)-1]
		for i := range last {
			last[i].Bytes = newRow(last[i].Bytes)
			last[i].Kids = newRow(last[i].Kids)
			if len(last[i].Kids) > 0 {
				waiting = append(waiting, last[i].Kids)
			}
		}
	}
	return all
}

// newRow tells the same elements in new memory; nil, if there are none.
func newRow[T any](row []T) []T {
	return append([]T(nil), row...)
}
