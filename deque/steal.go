package deque

import "thresher/api"

// steal is an act that gets the value at the top. Its steps are methods, each of which has the next one follow.
type steal struct{ act }

func (s *steal) loadTop() api.Errno { return s.readTop(s.loadBottom) }

func (s *steal) loadBottom() api.Errno {
	e := s.readBottom(s.loadWhere)
	if e == api.OK && s.top >= s.bottom {
		s.end(api.ActEmpty, 0)
	}
	return e
}

func (s *steal) loadWhere() api.Errno { return s.readWhere(s.loadCount) }

func (s *steal) loadCount() api.Errno { return s.readCount(s.loadValue) }

func (s *steal) loadValue() api.Errno { return s.readPlace(s.top, s.swap) }

func (s *steal) swap() api.Errno {
	if s.take() {
		s.end(api.ActGot, s.value)
	} else {
		s.end(api.ActLost, 0)
	}
	return api.OK
}
