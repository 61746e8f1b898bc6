package drag

import (
	"iter"

	"tumblehome/api"
)

// whole is of how many thousandths everything is made.
const whole = 1000

// pull times a force, divided by the wet surface and the square of the speed, is a coefficient: it holds half the density of water, and the units.
const pull = 20000000000

// test is a test that is checked, with the lines of its contract.
type test struct {
	api.DragTest
	lines []curve
}

// model returns the Reynolds number of the model, with this viscosity of the tank.
func (t test) model(tank int64) int64 { return t.Speed * t.Long / tank }

// ship returns the Reynolds number of the ship, with this viscosity of the sea.
func (t test) ship(sea int64) int64 {
	return t.Speed * t.Long * t.Alpha * t.Alpha * t.Alpha / sea
}

// reynolds returns the Reynolds numbers of the model and of the ship: the greater the viscosity, the less they are.
func (t test) reynolds() (api.Range, api.Range) {
	model := api.Range{Lo: t.model(t.Tank.Hi), Hi: t.model(t.Tank.Lo)}
	ship := api.Range{Lo: t.ship(t.Sea.Hi), Hi: t.ship(t.Sea.Lo)}
	return model, ship
}

// isInside reports whether no Reynolds number is outside of a line. As a line has all that is between its ends, only the ends are looked at.
func (t test) isInside() bool {
	model, ship := t.reynolds()
	for _, c := range t.lines {
		for i, re := range ends(model) {
			if !c.has(re) || !c.has(ends(ship)[i]) {
				return false
			}
		}
	}
	return true
}

// nearest returns the truth whose numbers are as near to those of x as can be: x is a truth just if it is this one.
func (t test) nearest(x api.DragTrue) api.DragTrue {
	return api.DragTrue{
		Force: into(t.Force, x.Force),
		Tank:  into(t.Tank, x.Tank),
		Sea:   into(t.Sea, x.Sea),
		Form:  into(t.Form, x.Form),
		Block: into(t.Block, x.Block),
		Rough: into(t.Rough, x.Rough),
	}
}

// coefficient returns the coefficient of the ship by a truth, with the friction of a line. Nothing that is divided is below 0, or above 2^61.
func (t test) coefficient(x api.DragTrue, friction func(re int64) int64) int64 {
	formed := func(re int64) int64 { return (whole + x.Form) * friction(re) / whole }
	measured := min(pull*x.Force/(t.Wet*t.Speed*t.Speed), api.MaxDragCoef)
	corrected := measured * (whole - x.Block) / whole
	return corrected - formed(t.model(x.Tank)) + formed(t.ship(x.Sea)) + x.Rough
}

// candidates yields truths of which one has the greatest coefficient by a line, or the least one if high is false. All numbers but Form move the coefficient to one side only, whatever the others are. With Form both frictions rise, and either may be the one that is rounded more: all its numbers are candidates.
func (t test) candidates(high bool) iter.Seq[api.DragTrue] {
	end := func(r api.Range, isRaising bool) int64 {
		if isRaising == high {
			return ends(r)[1]
		}
		return ends(r)[0]
	}
	x := api.DragTrue{
		Force: end(t.Force, true),
		Tank:  end(t.Tank, false),
		Sea:   end(t.Sea, true),
		Block: end(t.Block, false),
		Rough: end(t.Rough, true),
	}
	return func(yield func(api.DragTrue) bool) {
		for form := t.Form.Lo; form <= t.Form.Hi; form++ {
			x.Form = form
			if !yield(x) {
				return
			}
		}
	}
}

// end returns the greatest coefficient by one line, or the least one if high is false.
func (t test) end(c curve, high bool) int64 {
	friction := c.friction
	var best int64
	isFirst := true
	for x := range t.candidates(high) {
		n := t.coefficient(x, friction)
		if isFirst || high && n > best || !high && n < best {
			best = n
		}
		isFirst = false
	}
	return best
}

// span returns the least and the greatest coefficient by all lines.
func (t test) span() api.Range {
	all := api.Range{Lo: t.end(t.lines[0], false), Hi: t.end(t.lines[0], true)}
	for _, c := range t.lines[1:] {
		all.Lo = min(all.Lo, t.end(c, false))
		all.Hi = max(all.Hi, t.end(c, true))
	}
	return all
}

// found returns the first line, and the first of its truths, with the greatest coefficient, or the least one if high is false.
func (t test) found(high bool) (int, api.DragTrue) {
	want := t.span().Lo
	if high {
		want = t.span().Hi
	}
	var line int
	var truth api.DragTrue
search:
	for i, c := range t.lines {
		for x := range t.candidates(high) {
			if t.coefficient(x, c.friction) == want {
				line, truth = i, x
				break search
			}
		}
	}
	return line, truth
}
