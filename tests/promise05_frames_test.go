package tests

import (
	"fmt"
	"math/rand"
	"slices"
	"strings"
	"testing"

	"loop.example/g01142/impl"
)

// deframeText tells how many frames there are, since an empty one cannot be seen in their list.
func deframeText(s impl.Stuffer, bits string) string {
	frames, ok := impl.DeframeBits(s, bits)
	return show(len(frames), frames, ok)
}

func framesText(frames []string) string { return show(len(frames), frames, true) }

const noFrames = `0 [] false`

// flagReference returns the flag, by the bit of the stuffer.
func flagReference(s impl.Stuffer) string {
	run, _ := bitsOf(s, s.After)
	bit, other := bitsOf(s, 1)
	return other + run + bit + other
}

// frameReference returns frames between flags, of any length.
func frameReference(s impl.Stuffer, frames []string) string {
	sent := flagReference(s)
	for _, frame := range frames {
		sent += stuffReference(s, frame) + flagReference(s)
	}
	return sent
}

// deframeReference returns the frames that bits contain.
func deframeReference(s impl.Stuffer, bits string) []string {
	pieces := strings.Split(bits, flagReference(s))
	var frames []string
	for i, piece := range pieces {
		frame, ok := unstuffReference(s, piece)
		if ok && frame != "" && i > 0 && i < len(pieces)-1 {
			frames = append(frames, frame)
		}
	}
	return frames
}

func withoutEmpty(frames []string) []string {
	return slices.DeleteFunc(slices.Clone(frames), func(frame string) bool { return frame == "" })
}

func checkFraming(t *testing.T, s impl.Stuffer, frames []string) {
	t.Helper()
	name := fmt.Sprintf("%v %q", s, frames)
	want := frameReference(s, frames)
	if len(want) > 400 {
		expect(t, []row{{"FrameBits of too many bits " + name, show(impl.FrameBits(s, frames)), noText}})
		return
	}
	expect(t, []row{
		{"FrameBits " + name, show(impl.FrameBits(s, frames)), show(want, true)},
		{"DeframeBits of what is framed " + name, deframeText(s, want), framesText(withoutEmpty(frames))},
	})
	// Bits of which no flag is made are left out before the first flag and behind the last one.
	_, others := bitsOf(s, 2)
	if len(want)+4 <= 400 {
		expect(t, []row{{"DeframeBits with bits beside " + name, deframeText(s, others+want+others), framesText(withoutEmpty(frames))}})
	}
}

func TestPromise5FlagOf(t *testing.T) {
	for _, s := range validStuffers() {
		expect(t, []row{{fmt.Sprint("FlagOf ", s), show(impl.FlagOf(s)), show(flagReference(s), true)}})
	}
	expect(t, []row{
		{"the document's flag", show(impl.FlagOf(impl.Stuffer{After: 2, Bit: 1})), `"01110" true`},
		{"the shortest flag", show(impl.FlagOf(impl.Stuffer{After: 1, Bit: 0})), `"1001" true`},
		{"a flag of zeros", show(impl.FlagOf(impl.Stuffer{After: 5, Bit: 0})), `"10000001" true`},
		{"the longest flag", show(impl.FlagOf(impl.Stuffer{After: 10, Bit: 1})), `"0111111111110" true`},
	})
}

func TestPromise5FramesComeBack(t *testing.T) {
	source := rand.New(rand.NewSource(6))
	texts := textsUpTo(5)
	for _, s := range validStuffers() {
		for _, frame := range texts {
			checkFraming(t, s, []string{frame})
			for _, other := range texts {
				checkFraming(t, s, []string{frame, other})
			}
		}
		for _, length := range []int64{2 * s.After, 30, 120, 180, 370, 400} {
			for _, frame := range longTexts(source, length) {
				checkFraming(t, s, []string{frame})
				checkFraming(t, s, []string{frame, "", drawnBits(source, 25), frame[:min(15, len(frame))]})
			}
		}
		for _, count := range []int{3, 10, 26, 27, 80, 81, 99, 100, 101} {
			frames := make([]string, count)
			checkFraming(t, s, frames)
			for i := range frames {
				frames[i] = drawnBits(source, source.Int63n(4))
			}
			checkFraming(t, s, frames)
		}
	}
}

func TestPromise5FramedBitsHaveALimit(t *testing.T) {
	for _, s := range validStuffers() {
		length := int64(len(flagReference(s)))
		_, fits := bitsOf(s, 400-2*length)
		_, tooLong := bitsOf(s, 401-2*length)
		run, _ := bitsOf(s, s.After)
		name := fmt.Sprint(s)
		long := fits[int64(len(fits))-length-20:]
		expect(t, []row{
			{"400 bits " + name, show(impl.FrameBits(s, []string{fits})), show(frameReference(s, []string{fits}), true)},
			{"400 bits come back " + name, deframeText(s, frameReference(s, []string{fits})), framesText([]string{fits})},
			{"401 bits " + name, show(impl.FrameBits(s, []string{tooLong})), noText},
			{"401 bits by a further one " + name, show(impl.FrameBits(s, []string{fits[s.After:] + run})), noText},
			{"401 bits by an empty frame " + name, show(impl.FrameBits(s, []string{tooLong[length:], ""})), noText},
			{"a frame that cannot be stuffed " + name, show(impl.FrameBits(s, []string{strings.Repeat(run[:1], 400)})), noText},
			{"many frames " + name, show(impl.FrameBits(s, repeated(long, 100000))), noText},
			{"many empty frames " + name, show(impl.FrameBits(s, make([]string, 100000))), noText},
		})
	}
}

func TestPromise5FramesThatAreNone(t *testing.T) {
	for _, s := range validStuffers() {
		for _, text := range notBits {
			name := fmt.Sprintf("%v %.20q", s, text)
			expect(t, []row{
				{"FrameBits " + name, show(impl.FrameBits(s, []string{text})), noText},
				{"FrameBits, the first one " + name, show(impl.FrameBits(s, []string{text, "1"})), noText},
				{"FrameBits, the last one " + name, show(impl.FrameBits(s, []string{"0", "1", text})), noText},
				{"DeframeBits " + name, deframeText(s, text), noFrames},
			})
		}
		flag := flagReference(s)
		expect(t, []row{
			{fmt.Sprint("FrameBits of no frames ", s), show(impl.FrameBits(s, nil)), noText},
			{fmt.Sprint("FrameBits of an empty list ", s), show(impl.FrameBits(s, []string{})), noText},
			{fmt.Sprint("FrameBits of an empty frame ", s), show(impl.FrameBits(s, []string{""})), show(flag+flag, true)},
			{fmt.Sprint("DeframeBits of 401 bits ", s), deframeText(s, flag+strings.Repeat("01", 200)+"0"), noFrames},
			{fmt.Sprint("DeframeBits of a frame and no bits ", s), deframeText(s, flag+"01"+flag+"2"), noFrames},
		})
	}
}

// Flags can overlap, be neighbours or be missing in any bits.
func TestPromise5FramesOfAnyBits(t *testing.T) {
	source := rand.New(rand.NewSource(7))
	texts := textsUpTo(14)
	for _, s := range validStuffers() {
		if s.After <= 3 {
			for _, bits := range texts {
				expect(t, []row{{fmt.Sprint("DeframeBits ", s, " ", bits), deframeText(s, bits), framesText(deframeReference(s, bits))}})
			}
		}
		flag := flagReference(s)
		for range 300 {
			bits := ""
			for range source.Intn(12) {
				bits += []string{flag, flag[1:], flag[:len(flag)-1], drawnBits(source, source.Int63n(9)), "0", "1"}[source.Intn(6)]
			}
			expect(t, []row{{fmt.Sprint("DeframeBits ", s, " ", bits), deframeText(s, bits), framesText(deframeReference(s, bits))}})
		}
		for _, bits := range longTexts(source, 400) {
			expect(t, []row{{fmt.Sprint("DeframeBits ", s, " ", bits), deframeText(s, bits), framesText(deframeReference(s, bits))}})
		}
	}
}

func TestPromise5FramesOfExamples(t *testing.T) {
	s := impl.Stuffer{After: 2, Bit: 1}
	single := impl.Stuffer{After: 1, Bit: 1}
	expect(t, []row{
		{"two frames", show(impl.FrameBits(s, []string{"1", "110"})), `"01110101110110001110" true`},
		{"an empty frame", show(impl.FrameBits(s, []string{"0", "", "1"})), show("01110"+"0"+"01110"+"01110"+"1"+"01110", true)},
		{"two frames come back", deframeText(s, "01110101110110001110"), "2 [1 110] true"},
		{"an empty one is left out", deframeText(s, "01110"+"0"+"01110"+"01110"+"1"+"01110"), "2 [0 1] true"},
		{"only empty ones", deframeText(s, "011100111001110"), "0 [] true"},
		{"no bits", deframeText(s, ""), "0 [] true"},
		{"no flag", deframeText(s, "0011010"), "0 [] true"},
		{"one flag", deframeText(s, "1001110100"), "0 [] true"},
		{"bits before and behind", deframeText(s, "10"+"01110"+"10"+"01110"+"10"), "1 [10] true"},
		{"a run that is too long", deframeText(s, "01110"+"1111"+"01110"+"0"+"01110"), "1 [0] true"},
		{"a further bit is missing", deframeText(s, "01110"+"011"+"01110"), "0 [] true"},
		{"flags with a bit in common", deframeText(s, "01110"+"1110"+"1"+"01110"), "0 [] true"},
		{"short flags with a bit in common", deframeText(single, "0110"+"110"+"10"+"0110"), "0 [] true"},
		{"a further bit alone", deframeText(single, "0110"+"10"+"0110"), "1 [1] true"},
	})
}
