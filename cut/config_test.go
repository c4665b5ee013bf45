package cut

import (
	"math"
	"testing"

	"larder/api"
)

func TestAllowed(t *testing.T) {
	for _, c := range []api.Config{
		{Min: 16, Max: 16, Bits: 1, Room: 100},
		{Min: 16, Max: 200, Bits: 12, Room: 60000},
		{Min: 200, Max: 200, Bits: 6, Room: 5000},
	} {
		if !Allowed(c) {
			t.Errorf("%+v may be", c)
		}
	}
}

func TestNotAllowed(t *testing.T) {
	good := api.Config{Min: 20, Max: 40, Bits: 4, Room: 1000}
	for _, min := range []int{math.MinInt, -20, 0, 15, 41, math.MaxInt} {
		c := good
		c.Min = min
		refuse(t, c)
	}
	for _, max := range []int{math.MinInt, -40, 0, 19, 201, math.MaxInt} {
		c := good
		c.Max = max
		refuse(t, c)
	}
	for _, bits := range []int{math.MinInt, -1, 0, 13, 32, 64, math.MaxInt} {
		c := good
		c.Bits = bits
		refuse(t, c)
	}
	for _, room := range []int{math.MinInt, -1000, 0, 99, 60001, math.MaxInt} {
		c := good
		c.Room = room
		refuse(t, c)
	}
	refuse(t, api.Config{})
}

func refuse(t *testing.T, c api.Config) {
	t.Helper()
	if Allowed(c) {
		t.Errorf("%+v may not be", c)
	}
}
