// Package number: numbers in few bytes, for all layers that write bytes.
package number

// most is how many bytes a number needs at most: 64 bits, seven a byte.
const most = 10

// Append writes a number behind b: seven bits a byte, the least ones first, 128 added to all but the last byte.
func Append(b []byte, n uint64) []byte {
	for n >= 128 {
		b = append(b, byte(n)|128)
		n >>= 7
	}
	return append(b, byte(n))
}

// AppendSigned writes a number with a sign behind b: as twice it, or, below 0, as one less than twice as much as it is below 0.
func AppendSigned(b []byte, n int64) []byte {
	// All bits of n>>63 are n's sign, so that below 0 the bits are turned over, which saves the case whose opposite is no int64.
	return Append(b, uint64(n)<<1^uint64(n>>63))
}

// Read is the number with which s begins, and what comes behind it; false, unless Append writes it so.
func Read(s string) (n uint64, behind string, ok bool) {
	for i := range min(len(s), most) {
		n |= uint64(s[i]&127) << (7 * i)
		if s[i] < 128 {
			// Written again, it shows noughts at its end and bits beyond the 64.
			ok = string(Append(nil, n)) == s[:i+1]
			return n, s[i+1:], ok
		}
	}
	return 0, s, false
}

// Signed is the number with a sign that AppendSigned writes as n.
func Signed(n uint64) int64 {
	return int64(n>>1) ^ -int64(n&1)
}
