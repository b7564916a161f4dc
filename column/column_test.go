package column_test

import (
	"math"
	"testing"

	"boathouse/api"
	"boathouse/column"
)

// ofIds answers columns of these Ids.
func ofIds(ids ...int) []api.Column {
	var all []api.Column
	for i, id := range ids {
		all = append(all, api.Column{Id: id, Name: "c", Kind: i % 4})
	}
	return all
}

func TestPlaces(t *testing.T) {
	for _, c := range []struct {
		columns []api.Column
		id      int
		want    int
	}{
		{nil, 0, -1},
		{[]api.Column{}, 1, -1},
		{ofIds(1), 1, 0},
		{ofIds(1), 0, -1},
		{ofIds(1), 2, -1},
		{ofIds(7, 2, 4), 7, 0},
		{ofIds(7, 2, 4), 2, 1},
		{ofIds(7, 2, 4), 4, 2},
		{ofIds(7, 2, 4), 3, -1},
		{ofIds(1, 2, 3, 4, 5, 6, 7, 8, 9, 10, 11, 12), 12, 11},
		{ofIds(math.MaxInt, math.MinInt), math.MinInt, 1},
		{ofIds(1, 1<<32+1), 1<<32 + 1, 1},
		// Of columns that may not stand together the first is meant.
		{ofIds(5, 3, 3, 5), 3, 1},
		{ofIds(5, 3, 3, 5), 5, 0},
		{ofIds(0, -1), -1, 1},
	} {
		if got := column.Place(c.columns, c.id); got != c.want {
			t.Errorf("Place(%v, %d): %d, not %d", c.columns, c.id, got, c.want)
		}
	}
}
