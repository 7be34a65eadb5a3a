// Package coding: bytes as digits, and back.
package coding

import (
	"strings"

	"gatepost/api"
)

const (
	digits  = "0123456789abcdef"
	letters = "ABCDEFGHIJKLMNOPQRSTUVWXYZabcdefghijklmnopqrstuvwxyz0123456789+/"
)

// Hex is bytes as two small hexadecimal digits each.
func Hex(s string) (_ string) {
	out := make([]byte, 0, 2*len(s))
	for i := range len(s) {
		out = append(out, digits[s[i]>>4], digits[s[i]&15])
	}
	return string(out)
}

// Unhex is the bytes that small hexadecimal digits are. ErrForm.
func Unhex(s string) (_ string, _ error) {
	if len(s)%2 != 0 {
		return "", api.ErrForm
	}
	out := make([]byte, 0, len(s)/2)
	for i := range len(s) / 2 {
		high := strings.IndexByte(digits, s[2*i])
		low := strings.IndexByte(digits, s[2*i+1])
		if high < 0 || low < 0 {
			return "", api.ErrForm
		}
		out = append(out, byte(high<<4|low))
	}
	return string(out), nil
}

// Lower is a text with small letters for great ones (of ASCII).
func Lower(s string) (_ string) {
	out := []byte(s)
	for i := range len(out) {
		if 'A' <= out[i] && out[i] <= 'Z' {
			out[i] += 'a' - 'A'
		}
	}
	return string(out)
}

// Base64 is bytes by 64 letters, filled up with =.
func Base64(s string) (_ string) {
	groups := (len(s) + 2) / 3
	out := make([]byte, 0, 4*groups)
	for i := range groups {
		out = appendGroup(out, s[3*i:min(3*i+3, len(s))])
	}
	return string(out)
}

// appendGroup adds the four letters of one to three bytes.
func appendGroup(out []byte, part string) []byte {
	bits := 0
	for i := range 3 {
		bits <<= 8
		if i < len(part) {
			bits |= int(part[i])
		}
	}
	for i := range 4 {
		// n bytes reach into n+1 letters; no bit of theirs is behind these.
		if i > len(part) {
			out = append(out, '=')
		} else {
			out = append(out, letters[bits>>(18-6*i)&63])
		}
	}
	return out
}

// Unbase64 is the bytes that are so by 64 letters. ErrForm: none are.
func Unbase64(s string) (_ string, _ error) {
	if len(s)%4 != 0 {
		return "", api.ErrForm
	}
	// Any = beyond the last two stays in body, and is no letter there.
	body := strings.TrimSuffix(strings.TrimSuffix(s, "="), "=")
	out := make([]byte, 0, len(s)/4*3)
	bits, held := 0, 0
	for i := range len(body) {
		letter := strings.IndexByte(letters, body[i])
		if letter < 0 {
			return "", api.ErrForm
		}
		bits, held = bits<<6|letter, held+6
		if held >= 8 {
			held -= 8
			out = append(out, byte(bits>>held))
			bits &= 1<<held - 1
		}
	}
	// Base64 fills the last letter up with noughts: any other bit is none of its.
	if bits != 0 {
		return "", api.ErrForm
	}
	return string(out), nil
}
