package vector

// base is how many digits there are. A vector's text has of each number its
// digits, the least one first: it is short where numbers are small, as most are.
// All but the last one are told as digits above these, as the number goes on.
const base = 128

// text tells a vector.
func text(v []int) string {
	t := make([]byte, 0, len(v))
	for _, n := range v {
		for ; n >= base; n /= base {
			t = append(t, byte(base+n%base))
		}
		t = append(t, byte(n))
	}
	return string(t)
}

// numbers is the vector that a text tells.
func numbers(t string) []int {
	var v []int
	n, unit := 0, 1
	for i := range len(t) {
		digit := int(t[i])
		n += digit % base * unit
		unit *= base
		if digit < base {
			v = append(v, n)
			n, unit = 0, 1
		}
	}
	return v
}
