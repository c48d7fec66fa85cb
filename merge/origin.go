package merge

import "garner/api"

// origin is an item, and from which list it is. (It shares the item's Bytes
// with that list.)
type origin struct {
	item api.Item
	from int
}

// merged is lists as one; their numbers are from first on. Merging the newer
// half ahead, and the older one, and then both, is merging all: so each item
// is held against few others, however many lists there are.
func merged(l [][]api.Item, first int) []origin {
	switch len(l) {
	case 0:
		return nil
	case 1:
		return ofList(l[0], first)
	}
	half := len(l) / 2
	return join(merged(l[:half], first), merged(l[half:], first+half))
}

// ofList is one list's items, with its number.
func ofList(items []api.Item, from int) []origin {
	l := make([]origin, len(items))
	for i, x := range items {
		l[i] = origin{item: x, from: from}
	}
	return l
}

// join is a newer list and an older one as one.
func join(newer, older []origin) []origin {
	l := make([]origin, 0, len(newer)+len(older))
	for len(newer) > 0 && len(older) > 0 {
		a, b := newer[0].item.Key, older[0].item.Key
		switch {
		case a < b:
			l = append(l, newer[0])
			newer = newer[1:]
		case a > b:
			l = append(l, older[0])
			older = older[1:]
		default:
			older = older[1:]
		}
	}
	// One of them has nothing left.
	l = append(l, newer...)
	return append(l, older...)
}
