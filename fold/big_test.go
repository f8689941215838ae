package fold

import (
	"strings"
	"testing"

	"wainwright/api"
)

const most = api.MaxText

// xs is so many bytes.
func xs(n int) string { return strings.Repeat("x", n) }

// P14.1: an argument, or a condition, of as many bytes as a value may have, and of one more.
func TestBigArguments(t *testing.T) {
	for _, c := range []struct{ ahead, behind, want string }{
		{"$(strip ", ")", "%"}, {"$(words ", ")", "1"}, {"$(firstword ", ")", "%"}, {"$(lastword ", ")", "%"}, {"$(sort ", ")", "%"}, {"$(dir ", ")", "./"}, {"$(notdir ", ")", "%"},
		{"$(subst ", ",y,z)", "z"}, {"$(subst y,", ",z)", "z"}, {"$(subst z,", ",z)", "%"}, {"$(subst y,z,", ")", "%"}, {"$(findstring ", ",y)", ""}, {"$(findstring y,", ")", ""}, {"$(findstring x,", ")", "x"},
		{"$(addsuffix ", ",)", ""}, {"$(addsuffix ,", ")", "%"}, {"$(addprefix ", ",)", ""}, {"$(addprefix ,", ")", "%"}, {"$(if ", ",y,z)", "y"}, {"$(if ", ",y)", "y"},
	} {
		for _, n := range []int{most - 1, most} {
			want := strings.ReplaceAll(c.want, "%", xs(n))
			checkTexts(t, map[string]string{
				c.ahead + xs(n) + c.behind:                           want,
				c.ahead + "$(strip " + xs(n) + ")" + c.behind:        want,
				c.ahead + xs(n-1) + "$(strip x)" + c.behind:          want,
				c.ahead + "$(if a," + xs(n) + ")" + c.behind:         want,
				c.ahead + "$(if ,y)" + xs(n) + "$(if ,y)" + c.behind: want,
			})
		}
		checkStays(t, c.ahead+xs(most+1)+c.behind, c.ahead+xs(3*most)+c.behind, c.ahead+xs(most)+"$(strip x)"+c.behind)
		checkReads(t, map[string]string{c.ahead + "$(if a," + xs(most+1) + ")" + c.behind: c.ahead + xs(most+1) + c.behind})
	}
	blanks := strings.Repeat(" ", most)
	checkTexts(t, map[string]string{"$(if $(if a," + blanks + "),y,z)": "z", "$(words $(if a," + blanks + "))": "0"})
	checkText(t, "$(if $(if a,"+blanks+" ),y,z)", calls("if", blanks+" ", "y", "z"))
	checkText(t, "$(words $(if a,"+blanks+" ))", calls("words", blanks+" "))
}

// P14.1: a value of as many bytes as a value may have, and of one more.
func TestBigValues(t *testing.T) {
	half := xs(most / 2)
	for s, want := range map[string]string{
		"$(subst x,yy," + half + ")":                               strings.Repeat("yy", most/2),
		"$(subst y," + half + ",yy)":                               xs(most),
		"$(subst ," + half + "," + half + ")":                      xs(most),
		"$(subst y,zzz,y" + xs(most-3) + ")":                       "zzz" + xs(most-3),
		"$(subst " + half + ",yyyy," + half + half + ")":           "yyyyyyyy",
		"$(addsuffix " + xs(most-1) + ",y)":                        "y" + xs(most-1),
		"$(addsuffix " + xs(most/2-2) + ",y   zz)":                 "y" + xs(most/2-2) + " zz" + xs(most/2-2),
		"$(addprefix " + xs(most-1) + ", y )":                      xs(most-1) + "y",
		"$(addprefix " + xs(most/2-2) + ",y zz)":                   xs(most/2-2) + "y " + xs(most/2-2) + "zz",
		"$(dir " + xs(most/3) + "/y a " + xs(most-most/3-6) + "/)": xs(most/3) + "/ ./ " + xs(most-most/3-6) + "/",
	} {
		if len(want) > most {
			t.Errorf("%.50q asks for more than may be", s)
		}
		checkTexts(t, map[string]string{s: want})
	}
	checkStays(t,
		"$(subst x,yy,"+half+"x)", "$(subst y,"+half+"x,yy)", "$(subst ,"+half+"x,"+half+")", "$(subst ,"+half+","+half+"x)", "$(subst y,zzz,y"+xs(most-2)+")",
		"$(subst x,"+xs(most)+","+xs(most)+")", "$(subst x,"+xs(2)+","+xs(most)+")", "$(subst ,"+xs(most)+","+xs(most)+")",
		"$(addsuffix "+xs(most)+",y)", "$(addsuffix "+xs(most/2-2)+",yy zz)", "$(addsuffix "+xs(most)+","+strings.Repeat("y ", most/2)+")",
		"$(addprefix "+xs(most)+",y)", "$(addprefix "+xs(most/2-2)+",yy zz)", "$(addprefix "+xs(most)+","+strings.Repeat("y ", most/2)+")",
		"$(dir "+strings.Repeat("a ", most/3+1)+")")
	checkTexts(t, map[string]string{"$(dir " + strings.Repeat("a ", most/3) + ")": strings.Repeat("./ ", most/3)[:3*(most/3)-1]})
	checkReads(t, map[string]string{
		"$(strip $(addsuffix x," + xs(most) + "))":                   "$(strip $(addsuffix x," + xs(most) + "))",
		"$(words $(subst x,yy," + half + "x)$(strip  a ))":           "$(words $(subst x,yy," + half + "x)a)",
		"$(if $(addprefix $(strip  y )," + xs(most) + "),$(words ))": "$(if $(addprefix y," + xs(most) + "),0)",
	})
}

// P14.1: an if becomes what it chooses, of any length.
func TestBigChosen(t *testing.T) {
	for _, n := range []int{most - 1, most, most + 1, 3 * most} {
		checkTexts(t, map[string]string{"$(if a," + xs(n) + ")": xs(n), "$(if ," + xs(n) + ")": "", "$(if ,a," + xs(n) + ")": xs(n), "$(if a,$(if ,b," + xs(n) + "))": xs(n)})
		checkReads(t, map[string]string{
			"$(a)$(if a," + xs(n) + ")":                   "$(a)" + xs(n),
			"$(if ,," + xs(n) + ")$(a)":                   xs(n) + "$(a)",
			"$(a)$(if a," + xs(n) + ")$(b)":               "$(a)" + xs(n) + "$(b)",
			"$(if ,b)$(if a," + xs(n) + ")$(if ,b)$(a)":   xs(n) + "$(a)",
			"$(a)$(if ,b)$(if a," + xs(n) + ")$(strip  )": "$(a)" + xs(n),
		})
	}
}

// P14.1: a Cat's Texts together of as many bytes as a value may have.
func TestBigCats(t *testing.T) {
	half := xs(most / 2)
	checkTexts(t, map[string]string{
		xs(most-1) + "$(strip y)":                                  xs(most-1) + "y",
		"$(strip y)" + xs(most-1):                                  "y" + xs(most-1),
		xs(most-2) + "$(strip y)z":                                 xs(most-2) + "yz",
		"y$(strip z)" + xs(most-2):                                 "yz" + xs(most-2),
		half + "$(strip " + half + ")":                             half + half,
		"$(strip " + half + ")$(strip " + half + ")":               half + half,
		half + "$(if ,y)" + half:                                   half + half,
		xs(most) + "$(if ,y)":                                      xs(most),
		"$(if ,y)" + xs(most):                                      xs(most),
		"$(if ,y)$(strip )" + xs(most) + "$(strip )$(if ,y)":       xs(most),
		"$(if ,y)" + xs(most+1) + "$(strip )":                      xs(most + 1),
		"$(strip " + half + ")$(if ,y)$(if a," + half + ")$(if ,)": half + half,
		strings.Repeat("$(strip y)", most):                         strings.Repeat("y", most),
	})
	checkReads(t, map[string]string{
		"$(a)" + xs(most-1) + "$(strip y)$(b)": "$(a)" + xs(most-1) + "y$(b)",
		xs(most) + "$(a)$(strip y)":            xs(most) + "$(a)y",
		"$(strip y)$(a)" + xs(most+1):          "y$(a)" + xs(most+1),
	})
}

// P14.1: of one byte more: Calls stay so that no two Texts are side by side; what is within them is folded.
func TestTooBigCats(t *testing.T) {
	half := xs(most / 2)
	checkStays(t,
		xs(most)+"$(strip y)", "$(strip y)"+xs(most), xs(most-1)+"$(strip yz)", "$(strip yz)"+xs(most-1), xs(most-1)+"$(strip y)z", half+"$(strip y)"+half, half+"$(if ,y)"+half+"x", half+"x$(if ,y)"+half,
		xs(most)+"$(if ,y)z", "z$(strip )"+xs(most), xs(most+1)+"$(words )", "$(words )"+xs(most+1), xs(3*most)+"$(if ,y)"+xs(3*most), xs(most+1)+"$(if ,y)z", "y$(if a,"+xs(most)+")", "$(if a,"+xs(most+1)+")y",
		"$(a)"+xs(most)+"$(strip y)$(b)", "$(info a)"+xs(most)+"$(strip y)", "$(strip y)"+xs(most)+"$(info a)", half+"$(strip "+half+")y", "$(if a,y"+half+")"+half)
	checkReads(t, map[string]string{
		xs(most) + "$(strip $(strip  y ))":                                            xs(most) + "$(strip y)",
		xs(most) + "$(if $(strip  a ),$(words ),$(if ,z))":                            xs(most) + "$(if a,0,)",
		"$(if a,$(strip  y ))" + xs(most):                                             "$(if a,y)" + xs(most),
		xs(most) + "$(if a,$(b))":                                                     xs(most) + "$(b)",
		xs(most) + "$(if ,b,$(info $(if ,b)))" + xs(most):                             xs(most) + "$(info )" + xs(most),
		xs(most-1) + "$(strip y)$(strip z)":                                           xs(most-1) + "y$(strip z)",
		xs(most-1) + "$(strip y)$(strip z)$(strip w)":                                 xs(most-1) + "y$(strip z)w",
		xs(most-1) + "$(strip y)$(if ,z)$(strip w)":                                   xs(most-1) + "y$(strip w)",
		xs(most-1) + "$(if ,z)$(strip y)$(strip w)":                                   xs(most-1) + "y$(strip w)",
		xs(most) + "$(strip y)$(strip z)" + xs(most):                                  xs(most) + "$(strip y)$(strip z)" + xs(most),
		xs(most) + "$(strip y)$(strip z)" + xs(most-1):                                xs(most) + "$(strip y)z" + xs(most-1),
		half + "$(strip y)$(strip z)" + half:                                          half + "y$(strip z)" + half,
		half + "$(if a,$(strip y))$(strip " + half + ")z" + "$(a)":                    half + "y$(strip " + half + ")z$(a)",
		"$(strip " + xs(most) + ")$(strip y)$(strip z)":                               xs(most) + "$(strip y)z",
		"$(strip " + xs(most) + ")$(strip " + xs(most) + ")$(strip " + xs(most) + ")": xs(most) + "$(strip " + xs(most) + ")" + xs(most),
		"$(words " + half + "$(strip  y )" + half + ")":                               "$(words " + half + "$(strip  y )" + half + ")",
	})
	checkText(t, "y$(if a,$(a)"+xs(most)+")z", catOf(text("y"), catOf(refs("a"), text(xs(most))), text("z")))
}

// R1: values that would be very great are not made.
func TestGreatValues(t *testing.T) {
	row := strings.Repeat("x ", most/2)
	for _, s := range []string{"$(subst x," + xs(most) + "," + row + ")", "$(addsuffix " + xs(most) + "," + row + ")", "$(addprefix " + xs(most) + "," + row + ")"} {
		n := parsed(t, s)
		for range 200 {
			if got := Fold(n); !alike(got, n) {
				t.Fatalf("Fold of %s: %s", show(n), show(got))
			}
		}
	}
}
