package disk_test

import (
	"math/rand"
	"strings"
	"testing"

	"minstrel/api"
	"minstrel/disk"
)

// promise is what must be there of each file behind any crash, as the answers of calls tell it.
type promise map[string]string

// heed is what a call that was OK changes of it.
func (p promise) heed(d *disk.Disk, a act) {
	switch a.kind {
	case doSync:
		b, _ := d.Read(a.name)
		p[a.name] = string(b)
	case doTruncate:
		p[a.name] = part(p[a.name], a.n)
	case doRename:
		s, there := p[a.name]
		delete(p, a.name)
		delete(p, a.to)
		if there {
			p[a.to] = s
		}
	case doRemove:
		delete(p, a.name)
	}
}

// hold holds it against what a disk tells.
func (p promise) hold(t *testing.T, d *disk.Disk) {
	t.Helper()
	for name, s := range p {
		if b, is := d.Read(name); !is || !strings.HasPrefix(string(b), s) || d.Fast(name) < len(s) {
			t.Fatalf("%s: Read = %q, %v, Fast = %d, but %q stands fast", name, b, is, d.Fast(name), s)
		}
	}
}

// P20.4, P20.5: what was Synced is there behind any crash, and Used is never above size.
func TestStandsFast(t *testing.T) {
	for seed := range 3000 {
		by := rand.New(rand.NewSource(int64(seed)))
		m := maker{by, []string{"a", "b", "c", "d"}, 5, 8}
		size := by.Intn(40)
		d, p := made(t, size), promise{}
		for _, a := range m.acts(60) {
			if do(d, a) == api.OK {
				p.heed(d, a)
			}
			p.hold(t, d)
			if d.Used() > size {
				t.Fatal(d.Used(), size)
			}
		}
		d.Crash(by.Intn(5)-1, []byte(m.text()))
		p.hold(t, d)
		for _, name := range d.Names() {
			if b, _ := d.Read(name); d.Fast(name) != len(b) {
				t.Fatal("not all of it stands fast behind a crash:", name)
			}
		}
	}
}

// lay lays a text beside a file, a few bytes at a time, Syncs it, and Renames it to the file, as far as nothing is refused.
func lay(d *disk.Disk, name, text string) bool {
	d.Remove("new")
	for rest := text; ; rest = rest[min(3, len(rest)):] {
		if d.Append("new", []byte(part(rest, 3))) != api.OK {
			return false
		}
		if len(rest) <= 3 {
			return d.Sync("new") == api.OK && d.Rename("new", name) == api.OK
		}
	}
}

// P20.6: what is laid beside, Synced and Renamed is there whole behind any crash; if one of these was refused, what was there ahead is.
func TestWhole(t *testing.T) {
	done, refused := 0, 0
	for _, old := range []string{"", "old", "an elder text"} {
		for _, text := range []string{"", "n", "new", "a newer text"} {
			for size := len(old); size <= len(old)+len(text)+1; size++ {
				for n := -1; n < 10; n++ {
					for keep := -1; keep < 5; keep++ {
						for _, tail := range []string{"", "x", "a tail that is longer than all"} {
							d := made(t, size)
							must(t, d, add("f", old), sync("f"), cut(n))
							want := old
							if lay(d, "f", text) {
								want, done = text, done+1
							} else {
								refused++
							}
							mustRead(t, d, want)
							d.Crash(keep, []byte(tail))
							mustRead(t, d, want)
							lay(d, "g", "again")
							d.Crash(keep, []byte(tail))
							mustRead(t, d, want)
						}
					}
				}
			}
		}
	}
	if done < 1000 || refused < 1000 {
		t.Error(done, refused)
	}
}

// mustRead holds what the file f has, all of which stands fast.
func mustRead(t *testing.T, d *disk.Disk, want string) {
	t.Helper()
	if b, is := d.Read("f"); string(b) != want || !is || d.Fast("f") != len(want) {
		t.Fatalf("Read = %q, %v, Fast = %d, want %q", b, is, d.Fast("f"), want)
	}
}
