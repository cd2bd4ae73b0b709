package batch

import (
	"fmt"
	"slices"
	"strconv"
	"strings"
	"testing"

	"thicket/api"
)

// manyNames are so many names, all unlike.
func manyNames(n int) []string {
	l := make([]string, n)
	for i := range l {
		l[i] = "f" + strconv.Itoa(i)
	}
	return l
}

// Lists of features that are none, whatever the text is; so of both calls.
func TestWrongFeatures(t *testing.T) {
	wrong := [][]string{nil, {}, {""}, {"a", ""}, {"a b"}, {"a", " b"}, {"é"}, {"a,b"}, {"a\n"}, {`"a"`}, {"a", "b", "\xff"}, {strings.Repeat("n", api.MaxName+1)}, {"a", "a"}, {"a", "b", "c", "b"}, {"a", "b", "a!"}, {"a!", "a!"}, manyNames(api.MaxFeatures + 1), append(manyNames(api.MaxFeatures-1), "f0"), append(manyNames(api.MaxFeatures-1), "f 0")}
	for _, l := range wrong {
		what := fmt.Sprintf("17.2: features %.60q", l)
		for _, s := range []string{"", "a\n1", "\"", "a,a", "a b\n1", "\n\n\n"} {
			refused(t, what, csv(s, l...))
		}
		for _, x := range [][][]float64{nil, {{1}}, {make([]float64, len(l))}, {{1, 2}, {3}}, {nil}} {
			unwritten(t, "17.4: "+what, api.ErrRange)(PrintCsv(l, x))
		}
	}
	for _, l := range [][]string{{"-"}, {"."}, {"1"}, {"nan"}, {"a", "A"}, {strings.Repeat("n", api.MaxName)}, {"1.5", "-1", "_"}} {
		s := strings.Join(l, ",") + "\n" + strings.Join(slices.Repeat([]string{"7"}, len(l)), ",")
		says(t, fmt.Sprintf("17.2: features %q", l), csv(s, l...), [][]float64{slices.Repeat([]float64{7}, len(l))})
	}
	names := manyNames(api.MaxFeatures)
	row := make([]string, len(names))
	want := make([]float64, len(names))
	for i := range names {
		row[i], want[i] = strconv.Itoa(i), float64(i)
	}
	text := strings.Join(names, ",") + "\n" + strings.Join(row, ",") + "\n"
	says(t, "17.2: as many features as there may be", csv(text, names...), [][]float64{want})
	written(t, "17.4: as many features as there may be", text)(PrintCsv(names, [][]float64{want}))
	slices.Reverse(names)
	slices.Reverse(want)
	says(t, "17.8: as many features as there may be, the other way", csv(text, names...), [][]float64{want})
}

func TestHeaders(t *testing.T) {
	ab := []string{"a", "b"}
	for _, s := range []string{"a,b", "b,a", "x,a,y,b,z", `"a","b"`, "a,,b,", ",,a,b", "a,b,x,x,x", `a,b,"x,y","""q""",`, "a,b,A,B", "a,b, a,b ", "a,b,#", "a,b,?,!,\xff", `a,x"y,b`, "a,b,a b,a-b"} {
		says(t, "17.2: header "+s, csv(s+"\n", ab...), nil)
	}
	for _, s := range []string{"a", "b", "x", "a,a", "a,b,a", "b,a,b", "a,b,b,a", "A,B", "a, b", " a,b", "a ,b", "a;b", "a b", "ab", " ", "# a,b", `a,"b "`, `"a,b"`, `a,"b,"`, `"a",a,b`, `a,b,"b"`, "1,2", "a,bb", ",", "a\t,b", `a,"""b"""`} {
		breaks(t, "17.2: header "+s, csv(s+"\n1,2\n", ab...), 1, 2)
		breaks(t, "17.2: header "+s, csv("\n\n"+s, ab...), 3, 2)
	}
	for _, s := range []string{`"a,b`, `"a"x,b`, `a,"`, `a,a,"`, `a,b,"x" `, `"a" ,b`, `x,""y`} {
		breaks(t, "17.2: header "+s, csv(s+"\n1,2\n", ab...), 1, 1)
		breaks(t, "17.2: header "+s, csv("\r\n"+s, ab...), 2, 1)
	}
	breaks(t, "17.2: only lines without a byte are passed over", csv(" \na,b\n1,2", ab...), 1, 2)
	breaks(t, "17.2: a remark is a header", csv("# x\na,b\n1,2", ab...), 1, 2)
	breaks(t, "17.2: a header is one line", csv("a,b\na,b\n1,2", ab...), 2, 4)
}

// Lines below the header: how many fields they have, which are empty, which nobody looks at.
func TestColumns(t *testing.T) {
	for s, want := range map[string][][]float64{
		"1,2,3": {{3, 1}}, ",,": {{nan, nan}}, "1,,": {{nan, 1}}, ",x,3": {{3, nan}}, `"","",""`: {{nan, nan}}, "1,\"a,b\",3\n\n\n4,,6": {{3, 1}, {6, 4}}, "-0,nan,inf": {{endless, minus0}}, "1,\xff,3": {{3, 1}}, "1,\"\"\"\",3": {{3, 1}}, "1, ,3": {{3, 1}}, "nan,#,nan": {{nan, nan}}, "1,2\"3,4": {{4, 1}},
	} {
		says(t, "17.2: "+s, csv("b,x,a\n"+s, "a", "b"), want)
	}
	for s, rule := range map[string]int{
		"1": 3, "1,2": 3, "1,2,3,": 3, "1,2,3,4": 3, ",": 3, ",,,": 3, " ": 3, "#": 3, "# x": 3, "x": 3, `"1,2,3"`: 3, "z,z": 3, "z,z,z,z": 3, "1;2;3": 3, `1,"2,3"`: 3,
		"z,2,3": 4, "1,2,z": 4, "1,2, 3": 4, "1,2,3 ": 4, " ,2,3": 4, "1,2,\t": 4, `1,2,"3 "`: 4, "1,2,+3": 4, "1,2,3 # x": 4, "a,b,c": 4, "1,2,\xff": 4, "1,2,3\x00": 4, "1,2,\"4,5\"": 4,
		`1,2,"`: 1, `1,"2"x,3`: 1, `z,z,"3`: 1, `"1" ,2`: 1, `"`: 1, `z,2,3,4,"`: 1,
	} {
		breaks(t, "17.2: "+s, csv("b,x,a\n"+s, "a", "b"), 2, rule)
		breaks(t, "17.2: "+s, csv("\nb,x,a\n\n1,2,3\n"+s+"\n1\n\"\n", "a", "b"), 5, rule)
	}
	says(t, "17.2: one column", csv("a\n1\n\n\"\"\n2", "a"), [][]float64{{1}, {nan}, {2}})
	breaks(t, "17.2: a blank is no empty field", csv("a\n \n", "a"), 2, 4)
}

// permutations calls do with each order of so many things.
func permutations(n int, do func(order []int)) {
	var grow func(order []int)
	grow = func(order []int) {
		if len(order) == n {
			do(order)
			return
		}
		for i := range n {
			if !slices.Contains(order, i) {
				grow(append(order[:len(order):len(order)], i))
			}
		}
	}
	grow(nil)
}

// Columns in every order, the features in every order: each feature has what stands below its name.
func TestOrderOfColumns(t *testing.T) {
	names := []string{"a", "b", "x", "y", "b.c"}
	rows := [][]string{{"1", "", "?", "4", "-0"}, {"5", "6", "x y", "nan", "8"}}
	values := [][]float64{{1, nan, 0, 4, minus0}, {5, 6, 0, nan, 8}}
	asked := []int{0, 1, 3, 4} // x is no feature
	permutations(len(names), func(order []int) {
		var lines []string
		for _, cells := range append([][]string{names}, rows...) {
			var l []string
			for _, i := range order {
				l = append(l, cells[i])
			}
			lines = append(lines, strings.Join(l, ","))
		}
		s := strings.Join(lines, "\n")
		permutations(len(asked), func(of []int) {
			var features []string
			want := make([][]float64, len(values))
			for _, i := range of {
				features = append(features, names[asked[i]])
				for k := range values {
					want[k] = append(want[k], values[k][asked[i]])
				}
			}
			says(t, fmt.Sprintf("17.8: Csv(%q, %q)", s, features), csv(s, features...), want)
		})
	})
}
