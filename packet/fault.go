package packet

import "rollback/api"

// Fault is an error that names the part of a packet that is wrong; within it is the kind that the calls answer.
type Fault struct{ Part string }

// Error tells the part and the kind.
func (f Fault) Error() string { return f.Part + " of a packet: " + f.Unwrap().Error() }

// Unwrap gives the kind.
func (f Fault) Unwrap() error { return api.ErrPacket }
