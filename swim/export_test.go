package swim

// Begun makes a table one that has begun so many pings.
func (t *Table) Begun(pings int) { t.last.req = pings }
