package queue

import (
	"slices"
	"testing"
)

func TestOrder(t *testing.T) {
	var q Queue[rune]
	q.Put('a', 'b')
	q.Put('c')
	for _, want := range "abc" {
		if c, ok := q.Take(); c != want || !ok {
			t.Errorf("Take = %q, %v, want %q", c, ok, want)
		}
	}
	if c, ok := q.Take(); c != 0 || ok {
		t.Errorf("Take of an empty queue = %q, %v", c, ok)
	}
}

func TestDrop(t *testing.T) {
	for _, c := range []struct {
		n    int
		want string
	}{{-1, "abc"}, {0, "abc"}, {2, "c"}, {3, ""}, {4, ""}} {
		var q Queue[byte]
		q.Put([]byte("abc")...)
		q.Drop(c.n)
		if string(q.Waiting()) != c.want || q.Len() != len(c.want) {
			t.Errorf("Drop(%d) leaves %q, Len %d, want %q", c.n, q.Waiting(), q.Len(), c.want)
		}
	}
}

func TestWhatWasPutIsNotWrittenInto(t *testing.T) {
	things := []int{1, 2, 3, 4}
	var q Queue[int]
	q.Put(things[:2]...)
	q.Put(9)
	q.Waiting()[0] = 7
	if !slices.Equal(things, []int{1, 2, 3, 4}) {
		t.Errorf("Put wrote into its argument: %v", things)
	}
}

func TestNeverQuiteEmptyStaysSmall(t *testing.T) {
	var q Queue[int]
	q.Put(0)
	for i := range 100000 {
		q.Put(i + 1)
		if n, ok := q.Take(); n != i || !ok {
			t.Fatalf("Take = %d, %v, want %d", n, ok, i)
		}
	}
	if cap(q.items) > 64 {
		t.Errorf("one thing waits in room for %d", cap(q.items))
	}
}
