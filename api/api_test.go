package api_test

import (
	"testing"

	"trigon/api"
)

func TestNumbersOfErrors(t *testing.T) {
	got := [...]api.Errno{api.OK, api.ErrFar, api.ErrMany, api.ErrTwice, api.ErrNone, api.ErrForm}
	for i, e := range got {
		if int(e) != i {
			t.Errorf("error %d has the number %d", i, e)
		}
	}
}

func TestNumbersOfPlaces(t *testing.T) {
	got := [...]int{api.Outside, api.Inside, api.OnEdge, api.OnPoint}
	for i, n := range got {
		if n != i {
			t.Errorf("kind %d has the number %d", i, n)
		}
	}
}

func TestLimits(t *testing.T) {
	if api.MaxPoints != 60 || api.MaxCoord != 8000 {
		t.Errorf("limits are %d, %d", api.MaxPoints, api.MaxCoord)
	}
}
