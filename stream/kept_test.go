package stream

import (
	"testing"

	"causeway/wire"
)

// What has come, and what was acked, is let go of: no call could tell it any more.
func TestP50P51KeepNoMoreThanNeeded(t *testing.T) {
	s, err := NewSender(1, 0, 2)
	if err != nil {
		t.Fatal(err)
	}
	r, err := NewReceiver(1, 0, 2)
	if err != nil {
		t.Fatal(err)
	}
	var l []wire.Message
	for i := range 9 {
		m, err := s.Beat(i)
		if err != nil {
			t.Fatal(err)
		}
		l = append(l, m)
	}
	for _, c := range []struct{ at, kept int }{{2, 1}, {2, 1}, {1, 2}, {4, 3}, {0, 1}, {0, 1}, {2, 1}, {3, 0}, {4, 0}, {0, 0}, {5, 0}} {
		if _, err := r.Hear(l[c.at]); err != nil || len(r.ahead) != c.kept {
			t.Errorf("Hear of %d: %v, %d are kept, want %d", c.at+1, err, len(r.ahead), c.kept)
		}
	}
	for _, c := range []struct{ seq, kept int }{{0, 9}, {4, 5}, {2, 5}, {9, 0}} {
		if err := s.Acked(c.seq); err != nil || len(s.unacked) != c.kept {
			t.Errorf("Acked(%d): %v, %d are kept, want %d", c.seq, err, len(s.unacked), c.kept)
		}
	}
	if err := s.Acked(10); err == nil || len(s.unacked) != 0 {
		t.Errorf("Acked(10): %v, %d are kept", err, len(s.unacked))
	}
}
