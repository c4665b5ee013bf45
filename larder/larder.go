// Package larder keeps streams of bytes, each part of them once. See DOC.md.
package larder

import (
	"larder/api"
	"larder/cut"
	"larder/pack"
)

// Cuts tells where a stream is cut (P3).
func Cuts(data string, c api.Config) ([]int, api.Errno) {
	if !cut.Allowed(c) {
		return nil, api.ErrConfig
	}
	if len(data) > api.MaxData {
		return nil, api.ErrBig
	}
	return cut.Places(data, c), api.OK
}

// Pack packs bytes (P4).
func Pack(s string) (string, api.Errno) {
	if len(s) > api.MaxData {
		return "", api.ErrBig
	}
	return pack.Pack(s), api.OK
}

// Unpack unpacks what is packed (P5).
func Unpack(s string) (string, api.Errno) {
	data, ok := pack.Unpack(s)
	if !ok {
		return "", api.ErrBytes
	}
	return data, api.OK
}

// Store keeps streams.
type Store struct{}

// New makes a store (P6).
func New(c api.Config) (*Store, api.Errno) { return nil, api.OK }

// Open makes a store of bytes (P7).
func Open(bytes string) (*Store, api.Errno) { return nil, api.OK }

// Bytes tells what the store is written as (P8).
func (s *Store) Bytes() string { return "" }

// Config tells how the store cuts (P8).
func (s *Store) Config() api.Config { return api.Config{} }

// Backup keeps a stream (P9).
func (s *Store) Backup(name string, data string) api.Errno { return api.OK }

// Restore gives a stream back (P10).
func (s *Store) Restore(name string) (string, api.Errno) { return "", api.OK }

// List tells the streams' names (P10).
func (s *Store) List() []string { return nil }

// Chunks tells how many chunks are kept (P10).
func (s *Store) Chunks() int { return 0 }

// Stop lets the store stop when so many bytes more have been written (P11).
func (s *Store) Stop(after int) api.Errno { return api.OK }
