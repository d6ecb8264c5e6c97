package record

import "iter"

// chunkFrame is how many bytes of a chunk stand around its body: the length and the sum.
const chunkFrame = 4 + 4

// chunkOf gives the chunk of a body.
func chunkOf(body string) string {
	b := fixed(len(body), 4) + body
	return b + fixed(int(sum(b)), 4)
}

// fixed gives a number's lowest bytes, the highest of them first.
func fixed(n, bytes int) string {
	var b []byte
	for bytes--; bytes >= 0; bytes-- {
		b = append(b, byte(n>>(8*bytes)))
	}
	return string(b)
}

// fixedOf gives the number of such bytes, four at most.
func fixedOf(b string) uint32 {
	var n uint32
	for _, one := range []byte(b) {
		n = n<<8 | uint32(one)
	}
	return n
}

// bodiesOf goes through the bodies of the chunks that stand one behind the other, as long as the next one is whole and its sum is right.
func bodiesOf(b string) iter.Seq[string] {
	return func(yield func(string) bool) {
		for rest := b; ; {
			body, whole := firstBody(rest)
			if !whole || !yield(body) {
				return
			}
			rest = rest[chunkFrame+len(body):]
		}
	}
}

// firstBody gives the body of the chunk that some bytes begin with, if a whole one is there and its sum is right.
func firstBody(b string) (body string, whole bool) {
	if len(b) < chunkFrame {
		return "", false
	}
	length := uint64(fixedOf(b[:4]))
	if length == 0 || length > uint64(len(b)-chunkFrame) {
		return "", false
	}
	end := 4 + length
	return b[4:end], sum(b[:end]) == fixedOf(b[end:end+4])
}

// sums are the sums of the numbers of four bits, each shifted out of an empty register.
var sums = [16]uint32{
	0x00000000, 0x1db71064, 0x3b6e20c8, 0x26d930ac,
	0x76dc4190, 0x6b6b51f4, 0x4db26158, 0x5005713c,
	0xedb88320, 0xf00f9344, 0xd6d6a3e8, 0xcb61b38c,
	0x9b64c2b0, 0x86d3d2d4, 0xa00ae278, 0xbdbdf21c,
}

// sum is the CRC-32 of some bytes, taken half a byte at a time, the lower half first.
func sum(b string) uint32 {
	register := ^uint32(0)
	for n := range len(b) {
		register ^= uint32(b[n])
		register = register>>4 ^ sums[register&15]
		register = register>>4 ^ sums[register&15]
	}
	return ^register
}
