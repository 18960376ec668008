package list_test

import (
	"slices"
	"strconv"
	"testing"

	"gossip/list"
)

func even(n int) bool { return n%2 == 0 }

func TestKeepDropAndTurn(t *testing.T) {
	for _, c := range []struct{ all, even, odd []int }{
		{nil, nil, nil},
		{[]int{4, 1, 2, 1, 4}, []int{4, 2, 4}, []int{1, 1}},
		{[]int{2}, []int{2}, nil},
		{[]int{3}, nil, []int{3}},
	} {
		if got := list.Keep(c.all, even); !slices.Equal(got, c.even) {
			t.Errorf("Keep of %v: %v", c.all, got)
		}
		if got := list.Drop(c.all, even); !slices.Equal(got, c.odd) {
			t.Errorf("Drop of %v: %v", c.all, got)
		}
	}
	if got := list.Turn([]int{3, 10}, strconv.Itoa); !slices.Equal(got, []string{"3", "10"}) {
		t.Errorf("Turn: %q", got)
	}
	if got := list.Turn(nil, strconv.Itoa); len(got) != 0 {
		t.Errorf("Turn of nothing: %q", got)
	}
}

func TestListsAreNewMemory(t *testing.T) {
	l := []int{2, 4, 6}
	for _, out := range [][]int{
		list.Keep(l, even),
		list.Drop(l, func(int) bool { return false }),
		list.Turn(l, func(n int) int { return n }),
	} {
		out[0] = 99
	}
	if !slices.Equal(l, []int{2, 4, 6}) {
		t.Errorf("the list that was handed in reads %v", l)
	}
}
