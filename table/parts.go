package table

import (
	"sort"

	"garner/api"
	"garner/block"
	"garner/frame"
	"garner/sieve"
	"garner/varint"
)

const (
	// mostMade is how many items a part has at most that is parted by a size.
	mostMade = 64
	// itemWeight is what an item weighs beside its bytes. (Layer 10 tells what
	// items weigh of a whole tree alone.)
	itemWeight = 16
)

// parts is items in order, as they are parted: one item at least in each part.
type parts struct {
	list  [][]api.Item
	count int
}

// partBySize is items in order, parted by a size.
func partBySize(l []api.Item, size int) parts {
	var p parts
	from, weight := 0, 0
	for i, x := range l {
		weight += weigh(x)
		if end := i + 1; weight >= size || end-from == mostMade || end == len(l) {
			p.add(l[from:end:end])
			from, weight = end, 0
		}
	}
	return p
}

// getParts is the parts whose frames they are.
func getParts(frames []api.Frame) (parts, api.Errno) {
	var p parts
	// No key is empty, so that the first one is above last too.
	last := ""
	for _, f := range frames {
		if f.Kind != partKind {
			return parts{}, api.ErrText
		}
		l, err := block.Get(f.Body)
		if err != api.OK || firstKey(l) <= last || p.count+len(l) > maxItems {
			return parts{}, api.ErrText
		}
		p.add(l)
		last = lastKey(l)
	}
	return p, api.OK
}

func (p *parts) add(l []api.Item) {
	p.list = append(p.list, l)
	p.count += len(l)
}

// seek is the place of the first item whose key is not below: its part, and
// where it stands there; if there is none, behind all parts.
func (p *parts) seek(key string) (part, at int) {
	part = sort.Search(len(p.list), func(i int) bool { return lastKey(p.list[i]) >= key })
	if part == len(p.list) {
		return part, 0
	}
	l := p.list[part]
	return part, sort.Search(len(l), func(i int) bool { return l[i].Key >= key })
}

// frames is a frame for each part, and the places of their bodies.
func (p *parts) frames() ([]api.Frame, []int) {
	frames := make([]api.Frame, len(p.list))
	places := make([]int, len(p.list))
	at := 0
	for i, l := range p.list {
		// No error is left here: no part has more items than a block may, and
		// all of them are in order.
		b, _ := block.Put(l)
		frames[i] = api.Frame{Kind: partKind, Body: b}
		places[i] = at + frame.Head(len(b))
		at += frame.Size(len(b))
	}
	return frames, places
}

// tail is the frames behind those of the parts, whose bodies stand at these places.
func (p *parts) tail(places []int) []api.Frame {
	return []api.Frame{
		{Kind: indexKind, Body: p.index(places)},
		{Kind: sieveKind, Body: sieve.Of(p.keys())},
		{Kind: countKind, Body: varint.Put(uint64(p.count))},
	}
}

// index is the bytes that tell each part's first key, and its place.
func (p *parts) index(places []int) []byte {
	var b []byte
	for i, l := range p.list {
		key := firstKey(l)
		b = append(b, varint.Put(uint64(len(key)))...)
		b = append(b, key...)
		b = append(b, varint.Put(uint64(places[i]))...)
	}
	return b
}

func (p *parts) keys() []string {
	keys := make([]string, 0, p.count)
	for _, l := range p.list {
		for _, x := range l {
			keys = append(keys, x.Key)
		}
	}
	return keys
}

func weigh(x api.Item) int { return len(x.Key) + itemWeight + len(x.Cell.Bytes) }

func firstKey(l []api.Item) string { return l[0].Key }

func lastKey(l []api.Item) string { return l[len(l)-1].Key }
