package sum

import "gatepost/coding"

// order is which of a number's bytes come first: in this alone the two sums' texts differ.
type order bool

const (
	leastFirst    order = false
	greatestFirst order = true
)

// shift is by how many bits byte i of a number of n bytes stands above the number's end.
func (o order) shift(i, n int) int {
	if o == greatestFirst {
		i = n - 1 - i
	}
	return 8 * i
}

// fill is a text with what fills it up to whole blocks: a byte 128, noughts, and how many bits it has.
func (o order) fill(s string) []byte {
	const room = blockSize + 8 // the most that is added
	text := append(make([]byte, 0, len(s)+room), s...)
	text = append(text, 128)
	for len(text)%blockSize != blockSize-8 {
		text = append(text, 0)
	}
	// All 64 bits, so that nothing wraps where an int has 32.
	count := 8 * uint64(len(s))
	for i := range 8 {
		text = append(text, byte(count>>o.shift(i, 8)))
	}
	return text
}

// words is the block that a text begins with, as words.
func (o order) words(text []byte) [blockSize / 4]uint32 {
	var words [blockSize / 4]uint32
	for i := range blockSize {
		words[i/4] |= uint32(text[i]) << o.shift(i%4, 4)
	}
	return words
}

// hex is words' bytes, as digits.
func (o order) hex(words []uint32) string {
	out := make([]byte, 0, 4*len(words))
	for i := range 4 * len(words) {
		out = append(out, byte(words[i/4]>>o.shift(i%4, 4)))
	}
	return coding.Hex(string(out))
}
