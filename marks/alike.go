package marks

import "slices"

// few is how long a list may be that is quicker gone through than put into a map.
const few = 8

// Alike: have two the same name and the same attributes, in any order?
func Alike(a, b Entry) bool {
	return like(b)(a)
}

// like makes what tells whether an entry is alike e, for many to be asked about one e.
func like(e Entry) func(Entry) bool {
	has := among(e.Attrs)
	return func(one Entry) bool {
		if one.Name != e.Name || len(one.Attrs) != len(e.Attrs) {
			return false
		}
		for _, a := range one.Attrs {
			if !has(a) {
				return false
			}
		}
		return true
	}
}

// among makes what tells whether something is in the list. A list that is asked once is gone
// through; only one that is long, and asked again, is worth a map.
func among[T comparable](list []T) func(T) bool {
	var places map[T]int
	asked := false
	return func(one T) bool {
		if !asked || len(list) <= few {
			asked = true
			return slices.Contains(list, one)
		}
		if places == nil {
			places = placesOf(list)
		}
		_, ok := places[one]
		return ok
	}
}

func placesOf[T comparable](list []T) map[T]int {
	places := make(map[T]int, len(list))
	for at, one := range list {
		places[one] = at
	}
	return places
}
