// Package objstore keeps objects by key, and fails where it is told to: see DOC.md, chapter 1.
package objstore

import (
	"slices"
	"strings"

	"boathouse/api"
)

// Store holds its objects by key rising, so that those of a prefix stand side by side.
type Store struct {
	most    int
	objects []api.Object
	calls   int
	// owed holds one number, or nothing: how many failures are still to come.
	// A failure an item would need room, or time, for as many as are ordered.
	owed chan int
}

// New makes an empty store with room for most objects.
func New(most int) (*Store, api.Errno) {
	if most < 1 || most > api.MaxObjects {
		return nil, api.ErrStoreForm
	}
	return &Store{most: most}, api.OK
}

// Put lays data under a key that is not there yet.
func (s *Store) Put(key string, data string, time int) api.Errno {
	if e := s.enter(); e != api.OK {
		return e
	}
	if !isKey(key) || len(data) > api.MaxText || time < 0 {
		return api.ErrStoreForm
	}
	at, there := s.find(key)
	if there {
		return api.ErrStoreExists
	}
	if len(s.objects) >= s.most {
		return api.ErrStoreFull
	}
	s.objects = slices.Insert(s.objects, at, api.Object{Key: key, Data: data, Time: time})
	return api.OK
}

// Get answers the bytes that lie under a key.
func (s *Store) Get(key string) (string, api.Errno) {
	if e := s.enter(); e != api.OK {
		return "", e
	}
	at, there := s.find(key)
	if !there {
		return "", api.ErrStoreNone
	}
	return s.objects[at].Data, api.OK
}

// List answers the keys that begin with prefix, and their times.
func (s *Store) List(prefix string) ([]api.Object, api.Errno) {
	if e := s.enter(); e != api.OK {
		return nil, e
	}
	first, _ := s.find(prefix)
	var found []api.Object
	for _, o := range s.objects[first:] {
		if !strings.HasPrefix(o.Key, prefix) {
			break
		}
		found = append(found, api.Object{Key: o.Key, Time: o.Time})
	}
	return found, api.OK
}

// Delete takes the object under a key away.
func (s *Store) Delete(key string) api.Errno {
	if e := s.enter(); e != api.OK {
		return e
	}
	at, there := s.find(key)
	if !there {
		return api.ErrStoreNone
	}
	s.objects = slices.Delete(s.objects, at, at+1)
	return api.OK
}

// Fail orders that the next so many calls fail, in place of an elder order.
func (s *Store) Fail(many int) api.Errno {
	if s == nil {
		return api.ErrNil
	}
	if many < 0 {
		return api.ErrStoreForm
	}
	s.giveOrder(many)
	return api.OK
}

// All answers every object whole; it is no counted call, so it never fails.
func (s *Store) All() []api.Object {
	if s == nil {
		return nil
	}
	return slices.Clone(s.objects)
}

// Calls answers how many calls were counted.
func (s *Store) Calls() int {
	if s == nil {
		return 0
	}
	return s.calls
}

// Copy makes a store that stands as this one does and goes its own way from here.
func (s *Store) Copy() *Store {
	if s == nil {
		return nil
	}
	other := &Store{most: s.most, objects: slices.Clone(s.objects), calls: s.calls}
	many := s.takeOrder()
	s.giveOrder(many)
	other.giveOrder(many)
	return other
}

// enter begins a counted call: a failure that is owed comes ahead of all that the call would say itself.
func (s *Store) enter() api.Errno {
	if s == nil {
		return api.ErrNil
	}
	s.calls++
	many := s.takeOrder()
	if many == 0 {
		return api.OK
	}
	s.giveOrder(many - 1)
	return api.ErrStoreFails
}

// takeOrder empties the channel: how many failures were owed, 0 if it held nothing.
func (s *Store) takeOrder() int {
	select {
	case many := <-s.owed:
		return many
	default:
		return 0
	}
}

// giveOrder takes a new channel each time: a send to one that is full, or was never made, would not end.
func (s *Store) giveOrder(many int) {
	s.owed = make(chan int, 1)
	if many > 0 {
		s.owed <- many
	}
}

// find answers where the key stands or would stand, and whether it is there.
func (s *Store) find(key string) (int, bool) {
	return slices.BinarySearchFunc(s.objects, key, func(o api.Object, key string) int {
		return strings.Compare(o.Key, key)
	})
}

// isKey tells whether a text may be a key.
func isKey(key string) bool {
	if len(key) < 1 || len(key) > api.MaxKey {
		return false
	}
	for i := range len(key) {
		if key[i] < 33 || key[i] > 126 {
			return false
		}
	}
	return true
}
