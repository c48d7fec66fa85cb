package disk

import (
	"bytes"
	"maps"
	"math/rand"
	"slices"
	"strings"
	"testing"

	"garner/api"
)

func newSource() *rand.Rand { return rand.New(rand.NewSource(8)) }

// plainFile has the bytes that are safe, and those that are not, apart.
type plainFile struct{ safe, loose []byte }

func (f *plainFile) all() []byte { return slices.Concat(f.safe, f.loose) }

// plainDisk goes by the chapter's words: it has all that the names were, ahead
// of the turns that are not safe and behind each of them, and tells from that
// what is there.
type plainDisk struct {
	quota  int
	states []map[string]*plainFile
	done   int
	stopAt int
	faults int
	dead   bool
}

const off = -1

func newPlain(quota int) *plainDisk {
	return &plainDisk{quota: quota, states: []map[string]*plainFile{{}}, stopAt: off, faults: off}
}

func (p *plainDisk) now() map[string]*plainFile { return p.states[len(p.states)-1] }

func (p *plainDisk) used() int {
	there := map[*plainFile]bool{}
	for _, names := range p.states {
		for _, f := range names {
			there[f] = true
		}
	}
	n := 0
	for f := range there {
		n += len(f.all())
	}
	return n
}

func (p *plainDisk) turned(turn func(names map[string]*plainFile)) {
	names := maps.Clone(p.now())
	turn(names)
	p.states = append(p.states, names)
}

// act counts, and then does it, if no fault is in the way.
func (p *plainDisk) act(do func()) api.Errno {
	p.done++
	err := api.ErrFault
	if p.done != p.faults {
		err = api.OK
		do()
	}
	p.dead = p.done == p.stopAt
	return err
}

func plainName(s string) bool { return s != "" && len(s) < 17 }

func (p *plainDisk) append(name string, b []byte) api.Errno {
	_, there := p.now()[name]
	switch {
	case p.dead:
		return api.ErrDead
	case !plainName(name):
		return api.ErrArg
	case !there && len(p.now()) == mostFiles, p.used()+len(b) > p.quota:
		return api.ErrFull
	}
	return p.act(func() {
		if !there {
			p.turned(func(names map[string]*plainFile) { names[name] = &plainFile{} })
		}
		f := p.now()[name]
		f.loose = slices.Concat(f.loose, b)
	})
}

func (p *plainDisk) cut(name string, n int) api.Errno {
	f := p.now()[name]
	switch {
	case p.dead:
		return api.ErrDead
	case f == nil:
		return api.ErrNone
	case n < 0 || n > len(f.all()):
		return api.ErrArg
	}
	return p.act(func() {
		if n <= len(f.safe) {
			f.safe, f.loose = f.safe[:n], nil
		} else {
			f.loose = f.loose[:n-len(f.safe)]
		}
	})
}

func (p *plainDisk) sync(name string) api.Errno {
	f := p.now()[name]
	switch {
	case p.dead:
		return api.ErrDead
	case f == nil:
		return api.ErrNone
	}
	return p.act(func() { f.safe, f.loose = f.all(), nil })
}

func (p *plainDisk) syncNames() api.Errno {
	if p.dead {
		return api.ErrDead
	}
	return p.act(func() { p.states = []map[string]*plainFile{p.now()} })
}

func (p *plainDisk) rename(old, fresh string) api.Errno {
	f := p.now()[old]
	switch {
	case p.dead:
		return api.ErrDead
	case !plainName(fresh):
		return api.ErrArg
	case f == nil:
		return api.ErrNone
	}
	return p.act(func() {
		if old == fresh {
			return
		}
		p.turned(func(names map[string]*plainFile) {
			delete(names, old)
			names[fresh] = f
		})
	})
}

func (p *plainDisk) remove(name string) api.Errno {
	switch {
	case p.dead:
		return api.ErrDead
	case p.now()[name] == nil:
		return api.ErrNone
	}
	return p.act(func() {
		p.turned(func(names map[string]*plainFile) { delete(names, name) })
	})
}

func (p *plainDisk) read(name string, at, n int) ([]byte, api.Errno) {
	f := p.now()[name]
	switch {
	case p.dead:
		return nil, api.ErrDead
	case f == nil:
		return nil, api.ErrNone
	case at < 0 || n < 0:
		return nil, api.ErrArg
	}
	from := f.all()
	for range min(at, len(from)) {
		from = from[1:]
	}
	if len(from) < n {
		return nil, api.ErrArg
	}
	return from[:n], api.OK
}

func (p *plainDisk) stop(n int) {
	p.stopAt = off
	if n >= 0 {
		p.stopAt = p.done + n
	}
	p.dead = p.dead || n == 0
}

func (p *plainDisk) fault(n int) {
	p.faults = off
	if n >= 1 {
		p.faults = p.done + n
	}
}

func (p *plainDisk) crash(k api.Keep) {
	names := p.states[0]
	for i, later := range p.states {
		if i <= k.Names {
			names = later
		}
	}
	p.states = []map[string]*plainFile{names}
	place := 0
	for _, name := range slices.Sorted(maps.Keys(names)) {
		f := names[name]
		if len(f.loose) == 0 {
			continue
		}
		for i, b := range f.loose {
			if place < len(k.Tails) && i < k.Tails[place] {
				f.safe = slices.Concat(f.safe, []byte{b})
			}
		}
		f.loose = nil
		place++
	}
	p.dead, p.stopAt, p.faults = false, off, off
}

func (p *plainDisk) clone() *plainDisk {
	c := *p
	c.states = nil
	copies := map[*plainFile]*plainFile{}
	for _, names := range p.states {
		state := map[string]*plainFile{}
		for name, f := range names {
			if copies[f] == nil {
				copies[f] = &plainFile{slices.Clone(f.safe), slices.Clone(f.loose)}
			}
			state[name] = copies[f]
		}
		c.states = append(c.states, state)
	}
	return &c
}

// pair is a disk, and what it must be.
type pair struct {
	d *Disk
	p *plainDisk
}

// same asks for all that both tell.
func (q pair) same(t *testing.T) {
	t.Helper()
	names := slices.Sorted(maps.Keys(q.p.now()))
	if !slices.Equal(q.d.Names(), names) {
		t.Fatalf("Names: %q, want %q", q.d.Names(), names)
	}
	for _, name := range names {
		all := q.p.now()[name].all()
		if n, there := q.d.Size(name); n != len(all) || !there {
			t.Fatalf("Size(%q): %d, %v, want %d", name, n, there, len(all))
		}
		b, err := q.d.Read(name, 0, len(all))
		if q.p.dead && err != api.ErrDead || !q.p.dead && (err != api.OK || !bytes.Equal(b, all)) {
			t.Fatalf("Read(%q): %v, %d, want %v", name, b, err, all)
		}
	}
	used := q.p.used()
	if q.d.Used() != used || q.d.Room() != q.p.quota-used || q.d.Dead() != q.p.dead {
		t.Fatalf("Used %d, Room %d, Dead %v, want %d of %d, %v", q.d.Used(), q.d.Room(), q.d.Dead(), used, q.p.quota, q.p.dead)
	}
	// Di5.
	if used > q.p.quota {
		t.Fatalf("%d used of %d", used, q.p.quota)
	}
}

// choices is where numbers come from: a random source, or a fuzzer's bytes.
type choices func(n int) int

func (c choices) name() string {
	names := []string{"a", "b", "c", "d", "\xff", strings.Repeat("n", 16), "", strings.Repeat("n", 17)}
	return names[c(len(names))]
}

func (c choices) bytes() []byte {
	b := make([]byte, c(6))
	for i := range b {
		b[i] = byte(c(256))
	}
	return b
}

func (c choices) keep() api.Keep {
	k := api.Keep{Names: c(8) - 1}
	for range c(5) {
		k.Tails = append(k.Tails, c(7)-1)
	}
	return k
}

// step does one thing with both, and holds what is answered against each other.
func (c choices) step(t *testing.T, q pair) {
	t.Helper()
	name := c.name()
	var got, asked api.Errno
	what := ""
	switch c(16) {
	case 0, 1, 2, 3:
		b := c.bytes()
		what, got, asked = "Append", q.d.Append(name, b), q.p.append(name, b)
	case 4:
		n := c(14) - 1
		what, got, asked = "Cut", q.d.Cut(name, n), q.p.cut(name, n)
	case 5, 6:
		what, got, asked = "Sync", q.d.Sync(name), q.p.sync(name)
	case 7:
		what, got, asked = "SyncNames", q.d.SyncNames(), q.p.syncNames()
	case 8, 9:
		fresh := c.name()
		what, got, asked = "Rename", q.d.Rename(name, fresh), q.p.rename(name, fresh)
	case 10, 11:
		what, got, asked = "Remove", q.d.Remove(name), q.p.remove(name)
	case 12:
		at, n := c(12)-1, c(12)-1
		b, err := q.d.Read(name, at, n)
		want, wantErr := q.p.read(name, at, n)
		if !bytes.Equal(b, want) {
			t.Fatalf("Read(%q, %d, %d): %v, want %v", name, at, n, b, want)
		}
		what, got, asked = "Read", err, wantErr
	case 13:
		n := c(12) - 1
		q.d.Stop(n)
		q.p.stop(n)
	case 14:
		n := c(8) - 1
		q.d.Fault(n)
		q.p.fault(n)
	case 15:
		k := c.keep()
		q.d.Crash(k)
		q.p.crash(k)
	}
	if got != asked {
		t.Fatalf("%s of %q: %d, want %d", what, name, got, asked)
	}
	q.same(t)
}

// play does many steps with a disk and with clones of it, in turns.
func (c choices) play(t *testing.T, quota, steps int) {
	pairs := []pair{{newDisk(t, quota), newPlain(quota)}}
	for range steps {
		at := c(len(pairs))
		if c(40) == 0 {
			q := pair{pairs[at].d.Clone(), pairs[at].p.clone()}
			if len(pairs) < 3 {
				pairs = append(pairs, q)
			} else {
				pairs[c(3)] = q
			}
		}
		c.step(t, pairs[at])
	}
	for _, q := range pairs {
		q.same(t)
		// What is safe, and the turns that are not, are told by crashes.
		for n := -1; n < 4; n++ {
			r := pair{q.d.Clone(), q.p.clone()}
			r.d.Crash(api.Keep{Names: n, Tails: []int{n}})
			r.p.crash(api.Keep{Names: n, Tails: []int{n}})
			r.same(t)
		}
	}
}

// Di1 to Di5, R2, R4: as the chapter's words do it plainly.
func TestAsPlain(t *testing.T) {
	c := choices(newSource().Intn)
	for range 1500 {
		c.play(t, c(60), 1+c(120))
	}
}

// P1: whatever is done, no call panics, and all is as plainly done.
func FuzzAsPlain(f *testing.F) {
	f.Add([]byte{40, 0, 1, 1, 0, 1, 3, 1, 2, 3, 0, 1, 1, 15, 1})
	f.Fuzz(func(t *testing.T, b []byte) {
		next := func(n int) int {
			if len(b) == 0 {
				return 0
			}
			x := int(b[0]) % n
			b = b[1:]
			return x
		}
		c := choices(next)
		c.play(t, c(60), min(len(b), 200))
	})
}

// R4: the same calls, the same answers.
func TestSameAgain(t *testing.T) {
	run := func() []string {
		r := newSource()
		d := newDisk(t, 200)
		var l []string
		for range 400 {
			c := choices(r.Intn)
			name := c.name()
			d.Append(name, c.bytes())
			d.Rename(name, c.name())
			if c(5) == 0 {
				d.Crash(c.keep())
			}
			l = append(l, tell(d))
		}
		return l
	}
	if !slices.Equal(run(), run()) {
		t.Error("another answer to the same calls")
	}
}
