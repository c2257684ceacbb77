package store

import (
	"errors"
	"testing"

	"cairn/api"
	"cairn/drive"
)

// A Count at its end is behind 2^32 Puts: no test gets there but from within. Then a Put is refused ahead of any round, also where the store is stopped, and all else goes on.
func TestWorn(t *testing.T) {
	disks := []api.Disk{drive.New(4096), drive.New(4096), drive.New(4096)}
	s, err := Create(disks, api.Shape{K: 2, M: 1, Block: 4}, [8]byte{1})
	if err != nil {
		t.Fatal(err)
	}
	s.set.Last.Count = api.MaxCount - 1
	if err := s.Put("a", []byte("hello")); err != nil {
		t.Fatal(err)
	}
	if gen, size, err := s.Stat("a"); gen.Count != api.MaxCount || size != 5 || err != nil {
		t.Fatalf("Stat = %v, %d, %v", gen, size, err)
	}
	worn := func(key string) {
		t.Helper()
		var trouble *Trouble
		err := s.Put(key, []byte("x"))
		if !errors.As(err, &trouble) || *trouble != (Trouble{Op: "put", Key: key, Err: api.ErrWorn}) {
			t.Fatalf("Put %q = %v", key, err)
		}
	}
	worn("a")
	worn("b")
	if err := s.Delete("a"); err != nil {
		t.Fatal(err)
	}
	if set, is := s.Set(); !is || set.Last != (api.Gen{Epoch: 1, Count: api.MaxCount}) {
		t.Fatalf("Set = %v, %v", set, is)
	}
	s.Stop()
	worn("b")
	s, err = Open(disks)
	if err != nil {
		t.Fatal(err)
	}
	if err := s.Put("b", nil); err != nil {
		t.Fatal(err)
	}
}

// A closed store has no set, and one that was never stopped no closed channel: there is nothing of its own but these.
func TestWhatAStoreHas(t *testing.T) {
	disks := []api.Disk{drive.New(4096), drive.New(4096)}
	s, err := Create(disks, api.Shape{K: 1, M: 1, Block: 4}, [8]byte{1})
	if err != nil {
		t.Fatal(err)
	}
	stopped := func() bool {
		select {
		case <-s.done:
			return true
		default:
			return false
		}
	}
	if s.set == nil || stopped() {
		t.Fatal("it is not open, or stopped")
	}
	if err := s.Close(); err != nil || s.set != nil {
		t.Fatalf("Close = %v", err)
	}
	if s.Stop(); stopped() {
		t.Fatal("a Stop of a closed store did something")
	}
	s, err = Open(disks)
	if err != nil {
		t.Fatal(err)
	}
	s.Stop()
	s.Stop()
	if s.set == nil || !stopped() {
		t.Fatal("it is not open, or not stopped")
	}
}
