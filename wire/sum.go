package wire

const (
	sumSize    = 4
	polynomial = 0xEDB88320
)

// sumOf is the remainder of a text, as its bytes, the highest first.
func sumOf(s string) string {
	sum := Remainder(s)
	return string([]byte{byte(sum >> 24), byte(sum >> 16), byte(sum >> 8), byte(sum)})
}

// Remainder of a text, the lowest bit of each byte first, begun with all bits
// and turned at the end.
func Remainder(s string) uint32 {
	left := ^uint32(0)
	for i := range len(s) {
		left ^= uint32(s[i])
		for range 8 {
			low := left & 1
			left >>= 1
			if low == 1 {
				left ^= polynomial
			}
		}
	}
	return ^left
}
