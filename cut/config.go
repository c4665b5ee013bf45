// Package cut says where a stream of bytes is cut into chunks.
package cut

import "larder/api"

// Allowed tells whether a configuration may be.
func Allowed(c api.Config) bool {
	return within(c.Min, api.Window, c.Max) &&
		c.Max <= api.MaxChunk &&
		within(c.Bits, 1, api.MaxBits) &&
		within(c.Room, leastRoom, api.MaxStore)
}

const leastRoom = 100

func within(n, least, most int) bool {
	return least <= n && n <= most
}
