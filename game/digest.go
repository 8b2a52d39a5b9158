package game

const (
	leaves    = 32 // the pages, filled up to a power of two
	fnvStart  = 2166136261
	fnvFactor = 16777619
)

// Digest sums the memory up to one number, by a tree whose leaves are the pages.
func (m Memory) Digest() uint32 {
	var level [leaves]uint32
	for i, page := range m {
		level[i] = fnv(page[:])
	}
	for n := leaves; n > 1; n /= 2 {
		for i := range n / 2 {
			level[i] = joined(level[2*i], level[2*i+1])
		}
	}
	return level[0]
}

func joined(a, b uint32) uint32 {
	pair := uint64(a)<<32 | uint64(b)
	var bytes [8]byte
	for i := range bytes {
		bytes[i] = byte(pair >> (56 - 8*i))
	}
	return fnv(bytes[:])
}

func fnv(bytes []byte) uint32 {
	v := uint32(fnvStart)
	for _, b := range bytes {
		v = (v ^ uint32(b)) * fnvFactor
	}
	return v
}
