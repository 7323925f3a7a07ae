// Package store has what counts.
package store

import (
	"beaconmere/api"
)

// change is what a key was from a number on.
type change struct {
	version int
	gone    bool
	text    string
}

// Store of keys. It keeps every change of each key, by version, rising, as At may ask for any of them.
type Store struct {
	seq  int
	past [api.Keys][]change
}

// New makes one.
func New() *Store { return &Store{} }

// Put a text.
func (s *Store) Put(key int, text string) (int, error) {
	if err := checkPut(key, text); err != nil {
		return 0, err
	}
	return s.record(key, false, text)
}

// Delete a key.
func (s *Store) Delete(key int) (int, error) {
	if !isKey(key) {
		return 0, api.ErrRange
	}
	if s.changeAt(key, s.seq).gone {
		return 0, api.ErrNone
	}
	return s.record(key, true, "")
}

// Swap a text, if nothing else came between.
func (s *Store) Swap(key, version int, text string) (int, error) {
	if err := checkPut(key, text); err != nil {
		return 0, err
	}
	if s.changeAt(key, s.seq).version != version {
		return 0, api.ErrClash
	}
	return s.record(key, false, text)
}

// Read a key.
func (s *Store) Read(key int) (api.Entry, error) { return s.At(key, s.seq) }

// Seq tells how often something was done.
func (s *Store) Seq() int { return s.seq }

// At a number: the entry of a key.
func (s *Store) At(key, seq int) (api.Entry, error) {
	if !isKey(key) || seq < 0 || seq > s.seq {
		return api.Entry{}, api.ErrRange
	}
	c := s.changeAt(key, seq)
	return api.Entry{Key: key, Version: c.version, AsOf: seq, Gone: c.gone, Text: c.text}, nil
}

// record does a change that is allowed otherwise. Whether the store is full is asked here, behind all else: each call names that fault last.
func (s *Store) record(key int, gone bool, text string) (int, error) {
	if s.seq >= api.MaxSeq {
		return 0, api.ErrFull
	}
	s.seq++
	s.past[key] = append(s.past[key], change{version: s.seq, gone: gone, text: text})
	return s.seq, nil
}

// changeAt is the newest change of a key up to seq. It is sought from the end, as mostly the newest of all is asked for.
func (s *Store) changeAt(key, seq int) change {
	past := s.past[key]
	for i := len(past) - 1; i >= 0; i-- {
		if past[i].version <= seq {
			return past[i]
		}
	}
	return change{gone: true}
}

// checkPut tells what is wrong with a key and its text, whatever the store has.
func checkPut(key int, text string) error {
	if !isKey(key) {
		return api.ErrRange
	}
	if len(text) > api.MaxText {
		return api.ErrFull
	}
	return nil
}

func isKey(key int) bool { return key >= 0 && key < api.Keys }
