package heap

import (
	"math/bits"

	"minstrel/api"
	"minstrel/whole"
)

// leastBuckets is how many buckets a table has that has any; their number is always a power of 2.
const leastBuckets = 4

// wordBits is how many bits a word of counted has.
const wordBits = 64

// table is keys and their values: in the order in which they came, linked from first to last, and by their hashes in buckets. There are never fewer buckets than keys, and far more only till keys go.
type table struct {
	meta        api.Value
	keys        int
	first, last *entry
	buckets     []*entry
	counted     []uint64 // a bit for each of the keys 1, 2, 3, .., at least as many as there are keys
	size        int      // how many of these bits are set ahead of the first that is not
}

// entry is a key with its value.
type entry struct {
	key, val      api.Value
	hash          uint64
	chain         *entry // the next one of its bucket
	ahead, behind *entry
}

// hashOf is a number that equal keys share, and that other ones share hardly ever.
func hashOf(key api.Value) uint64 {
	hash := uint64(0)
	mix := func(part uint64) {
		// Multiplying carries what differs up alone, and buckets go by the lowest bits: so it is brought down again.
		hash = (hash ^ part) * 0x9e3779b97f4a7c15
		hash ^= hash >> 32
	}
	mix(uint64(key.K))
	mix(uint64(key.N))
	mix(uint64(key.O))
	mix(uint64(len(key.S)))
	word := uint64(0)
	for i := range len(key.S) {
		word = word<<8 | uint64(key.S[i])
		if i%8 == 7 {
			mix(word)
			word = 0
		}
	}
	mix(word)
	return hash
}

// find is where a key lies, nil if it is not there.
func (t *table) find(key api.Value, hash uint64) *entry {
	if t.keys == 0 {
		return nil
	}
	e := *t.bucket(hash)
search:
	for ; e != nil; e = e.chain {
		switch {
		case e.hash != hash:
			continue search
		case e.key == key:
			break search
		}
	}
	return e
}

// get is the value of a key, Nil if it is not there.
func (t *table) get(key api.Value, hash uint64) api.Value {
	e := t.find(key, hash)
	if e == nil {
		return api.Value{}
	}
	return e.val
}

// lists are all keys and their values, in order.
func (t *table) lists() ([]api.Value, []api.Value) {
	keys, vals := make([]api.Value, 0, t.keys), make([]api.Value, 0, t.keys)
	for e := t.first; e != nil; e = e.behind {
		keys, vals = append(keys, e.key), append(vals, e.val)
	}
	return keys, vals
}

// add lays a key that is not there behind all others.
func (t *table) add(e *entry) {
	if t.keys == len(t.buckets) {
		t.spread(max(leastBuckets, 2*len(t.buckets)))
	}
	e.ahead = t.last
	if t.last == nil {
		t.first = e
	} else {
		t.last.behind = e
	}
	t.last = e
	t.keys++
	t.lay(e)
}

// drop takes a key out that is there.
func (t *table) drop(e *entry) {
	link := t.bucket(e.hash)
	for *link != e {
		link = &(*link).chain
	}
	*link = e.chain
	if e.ahead == nil {
		t.first = e.behind
	} else {
		e.ahead.behind = e.behind
	}
	if e.behind == nil {
		t.last = e.ahead
	} else {
		e.behind.ahead = e.ahead
	}
	t.keys--
	t.discount(e.key)
	// A quarter, not a half: so that a key which comes and goes doesn't spread all others each time.
	if len(t.buckets) > leastBuckets && t.keys < len(t.buckets)/4 {
		t.spread(len(t.buckets) / 2)
	}
}

// spread lays all keys into so many buckets anew.
func (t *table) spread(buckets int) {
	t.buckets = make([]*entry, buckets)
	t.counted = make([]uint64, (buckets+wordBits-1)/wordBits)
	t.size = 0
	for e := t.first; e != nil; e = e.behind {
		t.lay(e)
	}
}

// lay puts a key into its bucket, and among those that are counted.
func (t *table) lay(e *entry) {
	b := t.bucket(e.hash)
	e.chain, *b = *b, e
	t.count(e.key)
}

// bucket is where the keys of a hash begin.
func (t *table) bucket(hash uint64) **entry {
	return &t.buckets[hash&uint64(len(t.buckets)-1)]
}

// count notes that a key has come, if it is one of 1, 2, 3, .. .
func (t *table) count(key api.Value) {
	at, is := t.bit(key)
	if !is {
		return
	}
	t.counted[at/wordBits] |= 1 << (at % wordBits)
	if at == t.size {
		t.size = t.gap()
	}
}

// discount notes that a key has gone.
func (t *table) discount(key api.Value) {
	at, is := t.bit(key)
	if !is {
		return
	}
	t.counted[at/wordBits] &^= 1 << (at % wordBits)
	t.size = min(t.size, at)
}

// gap is the first bit that is not set; all below size are known to be.
func (t *table) gap() int {
	at := t.size / wordBits
	for at < len(t.counted) && t.counted[at] == ^uint64(0) {
		at++
	}
	if at == len(t.counted) {
		return at * wordBits
	}
	return at*wordBits + bits.TrailingZeros64(^t.counted[at])
}

// bit is which bit of counted is a key's, if one is. Keys beyond them all have none: a table that has n keys has none of 1, 2, 3, .. in a row beyond n.
func (t *table) bit(key api.Value) (int, bool) {
	if key.K != api.Number {
		return 0, false
	}
	n, is := whole.ToInt(key.N)
	if !is || n < 1 || n > int64(len(t.counted)*wordBits) {
		return 0, false
	}
	return int(n - 1), true
}
