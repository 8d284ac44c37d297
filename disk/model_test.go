package disk_test

import (
	"fmt"
	"slices"
	"strings"
	"testing"

	"marigraph/api"
	"marigraph/disk"
)

// model is the chapter's sentences, word for word, over a map: fast and loose are the bytes of a file that are synced and those that are not.
type model struct {
	fast, loose map[string]string
	limit, left int
	down        bool
}

func (m *model) used() int {
	n := 0
	for name := range m.fast {
		n += len(m.fast[name]) + len(m.loose[name])
	}
	return n
}

func (m *model) show() string {
	var all []string
	for name, fast := range m.fast {
		all = append(all, fmt.Sprintf("%s=%s%s/%d", name, fast, m.loose[name], len(fast)))
	}
	slices.Sort(all)
	return strings.Join(all, " ")
}

// step is one call, by numbers.
type step struct {
	call, n  int
	from, to string
}

// refusal is ErrArg or ErrNone, ahead of any look at the power.
func (m *model) refusal(s step) api.Errno {
	fast, there := m.fast[s.from]
	switch {
	case s.call == 0 && (len(s.from) == 0 || len(s.from) > 32):
		return api.ErrArg
	case s.call != 0 && !there:
		return api.ErrNone
	case s.call == 3 && (s.n < 0 || s.n > len(fast+m.loose[s.from])):
		return api.ErrArg
	case s.call == 4 && (len(s.to) == 0 || len(s.to) > 32):
		return api.ErrArg
	}
	return api.OK
}

func (m *model) do(s step) api.Errno {
	if e := m.refusal(s); e != api.OK {
		return e
	}
	had := !m.down
	if m.left > 0 {
		m.left--
		m.down = m.left == 0
	}
	if s.call == 1 {
		room := m.used()+s.n <= m.limit
		if had && room {
			m.loose[s.from] += letters(s.n)
		}
		if m.down || !room {
			return api.ErrFull
		}
		return api.OK
	}
	if m.down {
		return api.ErrFull
	}
	m.change(s)
	return api.OK
}

func (m *model) change(s step) {
	fast, loose := m.fast[s.from], m.loose[s.from]
	switch s.call {
	case 0:
		m.fast[s.from], m.loose[s.from] = "", ""
	case 2:
		m.fast[s.from], m.loose[s.from] = fast+loose, ""
	case 3:
		m.fast[s.from], m.loose[s.from] = (fast + loose)[:s.n], ""
	case 4:
		delete(m.fast, s.from)
		delete(m.loose, s.from)
		m.fast[s.to], m.loose[s.to] = fast, loose
	case 5:
		delete(m.fast, s.from)
		delete(m.loose, s.from)
	}
}

func (m *model) crash(keep int) {
	for name, fast := range m.fast {
		loose := m.loose[name]
		m.fast[name], m.loose[name] = fast+loose[:min(max(keep, 0), len(loose))], ""
	}
	m.left, m.down = 0, false
}

func letters(n int) string {
	return "abcdefghijklmnopqrstuvwxyz"[:n]
}

func do(d *disk.Disk, s step) api.Errno {
	switch s.call {
	case 0:
		return d.Create(s.from)
	case 1:
		return d.Append(s.from, []byte(letters(s.n)))
	case 2:
		return d.Sync(s.from)
	case 3:
		return d.Cut(s.from, s.n)
	case 4:
		return d.Rename(s.from, s.to)
	}
	return d.Remove(s.from)
}

// dice are numbers that look thrown and are the same at each run.
type dice uint64

func (d *dice) below(n int) int {
	*d = *d*6364136223846793005 + 1442695040888963407
	return int(uint64(*d)>>33) % n
}

func throw(throws *dice) step {
	names := []string{"a", "b", "c", "d", "a", "b", "c", "", "a", strings.Repeat("n", 32), strings.Repeat("n", 33)}
	s := step{call: throws.below(6), from: names[throws.below(len(names))], to: names[throws.below(len(names))], n: throws.below(9)}
	if s.call == 3 {
		s.n -= 2
	}
	return s
}

// kept fails unless each file's synced bytes stand at its beginning.
func kept(t *testing.T, d *disk.Disk, m *model) {
	t.Helper()
	for name, fast := range m.fast {
		if b, there := d.Read(name); !there || !strings.HasPrefix(string(b), fast) || d.Synced(name) < len(fast) {
			t.Fatalf("P3.3: %s was synced as %q, is %q", name, fast, b)
		}
	}
}

func TestModel(t *testing.T) {
	for seed := range 300 {
		throws := dice(seed)
		limit := throws.below(40)
		d := fresh(t, limit)
		m := &model{fast: map[string]string{}, loose: map[string]string{}, limit: limit}
		for range 300 {
			switch kind := throws.below(30); kind {
			case 0:
				n := throws.below(12) - 2
				d.Arm(n)
				if !m.down {
					m.left = max(n, 0)
				}
			case 1:
				keep := throws.below(8) - 2
				d.Crash(keep)
				kept(t, d, m)
				m.crash(keep)
			case 2:
				limit := throws.below(50) - 1
				fits := limit >= m.used()
				if d.Grow(limit) != fits {
					t.Fatalf("P3.1: Grow(%d), used %d", limit, m.used())
				}
				if fits {
					m.limit = limit
				}
			default:
				s := throw(&throws)
				if got, e := do(d, s), m.do(s); got != e {
					t.Fatalf("P3.1, P3.2: seed %d, %+v: %d, want %d", seed, s, int(got), int(e))
				}
			}
			if show(d) != m.show() || d.Used() != m.used() || d.Down() != m.down {
				t.Fatalf("P3.1, P3.2: seed %d: %q, want %q", seed, show(d), m.show())
			}
		}
	}
}

func TestSyncedStays(t *testing.T) {
	for n := 1; n <= 40; n++ {
		d := fresh(t, 60)
		d.Create("a")
		d.Append("a", []byte("synced"))
		d.Sync("a")
		d.Arm(n)
		d.Append("a", []byte("not"))
		for i := range 40 {
			d.Create("b")
			d.Append("b", []byte("other"))
			d.Rename("b", "c")
			d.Remove("c")
			d.Append("a", make([]byte, i))
		}
		d.Grow(0)
		for range 3 {
			d.Crash(0)
			if b, _ := d.Read("a"); string(b) != "synced" || d.Synced("a") != 6 {
				t.Fatalf("P3.3: power gone at call %d: %q", n, b)
			}
		}
	}
}
