// Package larder keeps streams of bytes, each part of them once. See DOC.md.
package larder

import (
	"larder/api"
	"larder/cut"
	"larder/pack"
)

// Cuts tells where a stream is cut (P3).
func Cuts(data string, c api.Config) ([]int, api.Errno) {
	if !cut.Allowed(c) {
		return nil, api.ErrConfig
	}
	if len(data) > api.MaxData {
		return nil, api.ErrBig
	}
	return cut.By(c).Places(data), api.OK
}

// Pack packs bytes (P4).
func Pack(s string) (string, api.Errno) {
	if len(s) > api.MaxData {
		return "", api.ErrBig
	}
	return pack.Pack(s), api.OK
}

// Unpack unpacks what is packed (P5).
func Unpack(s string) (string, api.Errno) {
	data, ok := pack.Unpack(s)
	if !ok {
		return "", api.ErrBytes
	}
	return data, api.OK
}
