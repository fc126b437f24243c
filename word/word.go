// Package word turns numbers into bits and bytes, and back.
package word

import "concord/api"

const (
	numberBits = 64
	numberSize = 8 // bytes of a number
	byteBits   = 8
	halfBits   = 32 // of a key: the slot below, the replica above
)

// Low answers the lowest bits of u: none of them below 1, all of them from 64 on.
func Low(u uint64, bits int) uint64 {
	if bits < 1 {
		return 0
	}
	if bits >= numberBits {
		return u
	}
	return u & (1<<bits - 1)
}

// Sign answers the lowest bits of u as a number whose highest bit counts as taken off.
func Sign(u uint64, bits int) int64 {
	if bits < 1 {
		return 0
	}
	if bits > numberBits {
		bits = numberBits
	}
	// At the top the highest bit is the sign: moved down again it fills what is above.
	above := numberBits - bits
	return int64(u<<above) >> above
}

// Turn moves u's bits up by the lowest six bits of k; those that leave at the top come in below.
func Turn(u uint64, k int) uint64 {
	// Not k % 64, which is below 0 for a k below 0.
	up := k & (numberBits - 1)
	return u<<up | u>>(numberBits-up)
}

// Zig gives each number one from 0 on, small ones small: 0, -1, 1, -2 become 0, 1, 2, 3.
func Zig(n int) uint64 {
	if n < 0 {
		// ^n is -1 - n, which has room for the lowest n too, where -n has none.
		return uint64(^n)<<1 | 1
	}
	return uint64(n) << 1
}

// Zag answers the number whose Zig is u.
func Zag(u uint64) int {
	half := int(u >> 1)
	if u&1 == 1 {
		return ^half
	}
	return half
}

// Put answers b's bytes, and behind them the lowest n bytes of u, the lowest first.
func Put(b []byte, n int, u uint64) []byte {
	n = min(max(n, 0), numberSize)
	all := make([]byte, 0, len(b)+n)
	all = append(all, b...)
	for k := range n {
		all = append(all, byte(u>>(k*byteBits)))
	}
	return all
}

// Get answers the number of the n bytes of b from the place at on, the lowest first.
func Get(b []byte, at, n int) (uint64, api.Errno) {
	if n < 1 || n > numberSize || at < 0 || at > len(b) {
		return 0, api.ErrArg
	}
	// Not at + n, which might have no room as a number.
	if len(b)-at < n {
		return 0, api.ErrShort
	}
	var u uint64
	for k := range n {
		u |= uint64(b[at+k]) << (k * byteBits)
	}
	return u, api.OK
}

// Key answers the lowest 32 bits of i's Slot, and above them those of its Replica.
func Key(i api.Inst) uint64 {
	return Low(uint64(i.Replica), halfBits)<<halfBits | Low(uint64(i.Slot), halfBits)
}

// Inst answers the instance of u's highest 32 bits and its lowest ones, both as numbers from 0 on.
func Inst(u uint64) api.Inst {
	return api.Inst{Replica: int(u >> halfBits), Slot: int(Low(u, halfBits))}
}
