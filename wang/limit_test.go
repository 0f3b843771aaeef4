package wang

// P7.2: the limit of a count. The most boards of four by four that are known of a set are 2^40, which is allowed; so the
// limit is tested from inside, with more tiles than a set can have.

import (
	"testing"

	"encaustic/api"
)

func TestLimitOfCount(t *testing.T) {
	for _, c := range []struct {
		count, want int
		errno       api.Errno
	}{
		{0, 0, api.OK},
		{1 << 40, 1 << 40, api.OK},
		{1<<40 + 1, 0, api.ErrFull},
		{many, 0, api.ErrFull},
	} {
		if n, e := limited(c.count); n != c.want || e != c.errno {
			t.Errorf("%d: %d, %d, want %d, %d", c.count, n, e, c.want, c.errno)
		}
	}
}

func TestManyBoards(t *testing.T) {
	var set []api.Wang
	for i := range 25 {
		set = append(set, api.Wang{North: i % 5, South: i / 5})
	}
	b := bandOf(set, 4)
	for h, want := range []int{1, 5 * 5 * 5 * 5 * 5 * 5 * 5 * 5, 244140625, 152587890625, many} {
		if h > 0 && b.count(h) != want {
			t.Errorf("%d rows: %d, want %d", h, b.count(h), want)
		}
	}
	if board := b.fill(4); len(board) != 4 {
		t.Errorf("%v", board)
	}
	if n, e := limited(b.count(4)); n != 0 || e != api.ErrFull {
		t.Errorf("%d, %d", n, e)
	}
}
