package sum

// crcs are the checksums' remainders of half a byte, by the polynomial 0x04C11DB7 with its bits turned round.
var crcs = [16]uint32{
	0x00000000, 0x1DB71064, 0x3B6E20C8, 0x26D930AC, 0x76DC4190, 0x6B6B51F4, 0x4DB26158, 0x5005713C,
	0xEDB88320, 0xF00F9344, 0xD6D6A3E8, 0xCB61B38C, 0x9B64C2B0, 0x86D3D2D4, 0xA00AE278, 0xBDBDF21C,
}

// CRC tells the CRC-32 of ISO 3309.
func CRC(b []byte) int { return More(0, b) }

// More tells the CRC of some bytes, whose own one is crc, with b behind them.
func More(crc int, b []byte) int {
	// The bits that were turned at the end of the first bytes are turned back: of no bytes that makes the ones at the beginning.
	rest := ^uint32(crc)
	for _, x := range b {
		rest ^= uint32(x)
		rest = rest>>4 ^ crcs[rest&15]
		rest = rest>>4 ^ crcs[rest&15]
	}
	return int(^rest)
}
