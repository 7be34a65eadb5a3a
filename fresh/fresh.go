// Package fresh makes things anew, so that they share no memory with what they are made of.
package fresh

import (
	"strings"

	"gatepost/api"
)

// Each is a new list, of what is made of each one.
func Each[T any](l []T, made func(T) T) []T {
	var out []T
	for _, x := range l {
		out = append(out, made(x))
	}
	return out
}

// Origin is an origin that shares nothing with o.
func Origin(o api.Origin) api.Origin {
	o.Host = strings.Clone(o.Host)
	return o
}

// URL is a URL that shares nothing with u.
func URL(u api.URL) api.URL {
	return api.URL{Origin: Origin(u.Origin), Path: strings.Clone(u.Path), Query: strings.Clone(u.Query)}
}
