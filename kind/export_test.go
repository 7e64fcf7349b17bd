package kind

import "sync"

// Forget makes it as if none had asked the table yet.
func Forget() { once, table = sync.Once{}, nil }

// Made tells if the table has been made.
func Made() bool { return table != nil }
