package wire

// checkSteps is what the remainder of each 4 bits adds, by the reversed polynomial 0x82f63b78 of CRC-32C: bits by fours, since a table of bytes would be too long to stand here.
var checkSteps = [16]uint32{
	0x00000000, 0x105ec76f, 0x20bd8ede, 0x30e349b1,
	0x417b1dbc, 0x5125dad3, 0x61c69362, 0x7198540d,
	0x82f63b78, 0x92a8fc17, 0xa24bb5a6, 0xb21572c9,
	0xc38d26c4, 0xd3d3e1ab, 0xe330a81a, 0xf36e6f75,
}

// Crc is the check of bytes.
func Crc(s string) uint32 { return checkOn(0, s) }

// checkOn is the check of bytes and of those behind them: a frame's text is not joined to its count, since that would copy a long one.
func checkOn(check uint32, s string) uint32 {
	check = ^check
	for i := range len(s) {
		check ^= uint32(s[i])
		check = checkSteps[check&15] ^ check>>4
		check = checkSteps[check&15] ^ check>>4
	}
	return ^check
}
