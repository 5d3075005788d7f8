// Package sum is layer 1: a check by which bytes that came whole are told from spoilt ones.
package sum

// halves tells what each half byte leaves of the register; half bytes keep it short enough to be read at a glance.
var halves = [16]uint32{
	0x00000000, 0x105EC76F, 0x20BD8EDE, 0x30E349B1,
	0x417B1DBC, 0x5125DAD3, 0x61C69362, 0x7198540D,
	0x82F63B78, 0x92A8FC17, 0xA24BB5A6, 0xB21572C9,
	0xC38D26C4, 0xD3D3E1AB, 0xE330A81A, 0xF36E6F75,
}

// places tells by how many bits each byte of a sum is up in it, in the order in which they stand behind what is sealed.
var places = [4]int{0, 8, 16, 24}

// Of tells the sum of all parts, one behind the other: CRC-32C.
func Of(parts ...[]byte) uint32 {
	register := ^uint32(0)
	turn := func(b byte) {
		register ^= uint32(b)
		register = register>>4 ^ halves[register&15]
		register = register>>4 ^ halves[register&15]
	}
	for _, part := range parts {
		for _, b := range part {
			turn(b)
		}
	}
	return ^register
}

// Seal tells b, and its sum behind it, the lowest byte first.
func Seal(b []byte) []byte {
	sealed := make([]byte, 0, len(b)+len(places))
	sealed = append(sealed, b...)
	s := Of(b)
	for _, place := range places {
		sealed = append(sealed, byte(s>>place))
	}
	return sealed
}

// Open tells what was sealed; false: it was not.
func Open(b []byte) ([]byte, bool) {
	if len(b) < len(places) {
		return nil, false
	}
	end := len(b) - len(places)
	var s uint32
	for i, place := range places {
		s |= uint32(b[end+i]) << place
	}
	if s != Of(b[:end]) {
		return nil, false
	}
	return append([]byte(nil), b[:end]...), true
}
