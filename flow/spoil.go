package flow

import "ossuary/api"

// spoil is what spoilt a writer or a reader, if something did.
type spoil struct {
	self *spoil // a copy of what embeds it is none: no call answered it
	by   api.Errno
}

// begin says that what embeds it was answered, and is not spoilt.
func (s *spoil) begin() { s.self, s.by = s, api.OK }

// state is ErrNil, if no call answered what embeds it; else what spoilt that, or OK.
func (s *spoil) state() api.Errno {
	if s.self != s {
		return api.ErrNil
	}
	return s.by
}

// spoilBy spoils it, and tells by what.
func (s *spoil) spoilBy(e api.Errno) api.Errno {
	s.by = e
	return e
}
