// Package column finds columns by what a schema and its files share of them, their Ids: see DOC.md, chapter 12.
package column

import (
	"slices"

	"boathouse/api"
)

// Place answers the place of the first column of an Id, -1 if there is none.
func Place(columns []api.Column, id int) int {
	return slices.IndexFunc(columns, func(c api.Column) bool { return c.Id == id })
}
