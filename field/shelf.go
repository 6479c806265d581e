package field

import (
	"sync"

	"syndrome/api"
)

// slot: room for the table of one size.
type slot struct {
	once sync.Once
	made *table
}

// shelf has a slot for each size; what stands there is put there once, when Kept is asked for that size first.
var shelf [api.MaxQ + 1]slot

// Kept is the field of so many elements, as New tells it, by the table that stands on the shelf: that spares the making of another one.
func Kept(q int) (*Field, api.Errno) {
	if _, degree := primePower(q); degree == 0 {
		return nil, api.ErrField
	}
	shelf[q].once.Do(func() { shelf[q].made = build(q) })
	made := *shelf[q].made // a copy: what is handed out shares no memory with the shelf
	return &Field{made: &made}, api.OK
}
