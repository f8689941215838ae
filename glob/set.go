package glob

// set is bytes, a bit for each.
type set [4]uint64

// has tells whether b is one of the set.
func (s set) has(b byte) bool {
	return s[b/64]>>(b%64)&1 == 1
}

// with is the set and all bytes from low to high.
func (s set) with(low, high byte) set {
	// A byte would go round behind 255.
	for b := int(low); b <= int(high); b++ {
		s[b/64] |= 1 << (b % 64)
	}
	return s
}

// others is all bytes but the set's.
func (s set) others() set {
	for i := range s {
		s[i] = ^s[i]
	}
	return s
}
