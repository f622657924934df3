/- Save of package shadow: what it answers and leaves, whatever stands on the device; condition: the device lies in memory, with fewer than a million things loose in each block, or the pointer is nil. -/
import Derived.Test.YtcpapdpnnlnemaaShLoad
import Derived.Test.YtcpapdpnnlnemaaOcPut
namespace Go.Proofs.Ytcpapdpnnlnemaa
open Go.RowKit

section
variable {w w1 w2 w3 : World} {b : Nat} {D D1 D2 : Dv} {F : Nat → Prop}
/-- Made ahead, then done. -/
theorem ds_ahead (h0 : ∀ q, F q → q < w.heap.size) (hb : Below w.heap.size w w1) (hd : Dev w2 b D1 (Grow F w1 w2)) (ho : Only F w1 w2) : Dev w2 b D1 (Grow F w w2) ∧ Only F w w2 := by
  have s1 := hb.size
  have s2 := ho.size
  refine ⟨hd.widen (fun q hq => hq.imp id fun hq => ⟨by omega, hq.2⟩) (fun q hq => ?_), (Only.of_below hb F).trans ho⟩
  rcases hq with hq | hq
  · have := h0 q hq; omega
  · exact hq.2
/-- Done, then done again. -/
theorem ds_then (h0 : ∀ q, F q → q < w.heap.size) (ho : Only F w w1) (hd : Dev w2 b D1 (Grow (Grow F w w1) w1 w2)) (h2 : Only (Grow F w w1) w1 w2) : Dev w2 b D1 (Grow F w w2) ∧ Only F w w2 := by
  have s1 := ho.size
  have s2 := h2.size
  refine ⟨hd.widen (fun q hq => ?_) (fun q hq => ?_), ho.then h2 fun q hq => ?_⟩
  · rcases hq with (hq | hq) | hq
    · exact .inl hq
    · exact .inr ⟨hq.1, by omega⟩
    · exact .inr ⟨by omega, hq.2⟩
  · rcases hq with hq | hq
    · have := h0 q hq; omega
    · exact hq.2
  · exact hq.imp id fun h => h.1

theorem save_nil {lv : Value} (g : Nat) (w : World) : Calls Try.prog 11 #[.pointer none, .int .u64 (g : Int), lv] w fun e w' => e = .returned (err 2) ∧ w = w' := by
  go_enter Try.func11, Try.ntmps11
  go_wp2
  go_ret
  exact ⟨rfl, rfl⟩

set_option maxRecDepth 100000 in
set_option maxHeartbeats 1000000 in
theorem save_any {lv : Value} {l : Bytes} {n : Nat} (g : Nat) (h : Dev w b D F) (hu : Upto D n) (hn : n < 1000000) (hg : g < 18446744073709551616) (hl : Bs w lv l) :
    Calls Try.prog 11 #[ptr b, .int .u64 (g : Int), lv] w (DSteps w b F (sCode D g l) (sDev D g l)) := by
  obtain ⟨la, lc, rfl, _⟩ := hl.shape
  have hmg := mayGen_any g w hg
  have hsz := size_any h
  by_cases hm : sMay D g
  · obtain ⟨h1, h2⟩ := hm
    rw [h1] at hmg
    have h2' : ¬ (D.bk.length : Int) < 2 := by omega
    by_cases hmany : 480 < l.length
    · have e := save_many (D := D) (g := g) (l := l) ⟨h1, h2⟩ hmany
      rw [e.1, e.2]
      have hmany' : (480 : Int) < (l.length : Int) := by omega
      have HF := Lib.hid (d_same h)
      clear h1 h2 hmany e h hl hu
      go_enter Try.func11, Try.ntmps11
      go_wp2_with fail
      refine hmg.mono ?_
      rintro e w1 ⟨rfl, rfl⟩
      go_wp2_with fail
      refine hsz.mono ?_
      rintro e w1 ⟨rfl, rfl⟩
      go_wp2
      go_ret
      exact ⟨rfl, HF.out⟩
    · have hmany' : (l.length : Int) ≤ 480 := by omega
      have hl480 : l.length ≤ 480 := by omega
      have hcode : sCode D g l = (if wroteC D g l = 0 then fcode (wroteD D g l) else wroteC D g l) ∧ sDev D g l = (if wroteC D g l = 0 then fdev (wroteD D g l) else wroteD D g l) := by
        unfold sCode sDev
        constructor
        · rw [if_pos ⟨h1, h2⟩, if_neg hmany]
        · rw [if_pos ⟨h1, h2⟩, if_neg hmany]
      have hup := wdev_upto hu ((g % 2 : Nat) : Int) (sealG g l)
      have hput := put_any (b := .slice none 0 0) (l := []) g 8 w (Bs.nil w) (by simp)
      have hpl : putL [] g 8 = beL g 8 := by unfold putL; rw [if_pos (by rfl)]; rfl
      rw [hpl] at hput
      have H := Lib.hid (And.intro h (And.intro hl (And.intro hcode (And.intro hup.1 (And.intro (hu.small (by omega)) (And.intro hmg hsz))))))
      have HP := Lib.hid hput
      clear h1 h2 hmany h hl hu hcode hup hmg hsz hput hpl
      go_enter Try.func11, Try.ntmps11
      go_wp2_with fail
      refine H.out.2.2.2.2.2.1.mono ?_
      rintro e w1 ⟨rfl, rfl⟩
      go_wp2_with fail
      refine H.out.2.2.2.2.2.2.mono ?_
      rintro e w1 ⟨rfl, rfl⟩
      go_wp2_with fail
      refine HP.out.mono ?_
      rintro e w1 ⟨v1, rfl, o1, b1⟩
      have hl1 := H.out.2.1.below b1
      have hsz1 : (beL g 8).length + l.length ≤ 140737488355328 := by rw [beL_length]; omega
      have hz1 := b1.size
      have H1 := Lib.hid (And.intro o1 b1)
      clear HP b1
      go_wp2_with (at_builtin; refine wpList_append_bs bt rfl _ _ rfl _ rfl rfl o1 hl1 hsz1 hz1 ?_; intro v2 w2 o2 g2)
      have b2 := below_own H1.out.2 H1.out.1 g2
      have hsl := blkSeal_any (b := v2) (l := rootL g l) 1 w2 o2.bs
      have hV : sealV 1 (rootL g l) = (sealG g l, 0) := by unfold sealV; rw [if_neg (by decide), if_neg (by rw [rootL_length]; omega)]; rfl
      unfold Seals at hsl
      rw [hV] at hsl
      have H2 := Lib.hid (And.intro b2 hsl)
      clear b2 hsl hV o1 hl1 hsz1 hz1 o2 g2 H1
      go_wp2_with fail
      refine H2.out.2.mono ?_
      rintro e w3 ⟨v3, t3, rfl, o3, b3⟩
      have b3' := H2.out.1.trans (b3.mono H2.out.1.size)
      have h3 := H.out.1.below b3'
      have hwr := dwrite_any h3 H.out.2.2.2.2.1 ((g % 2 : Nat) : Int) o3.bs (fun q hq hf => by
        have s1 := o3.own hq
        have s2 := H2.out.1.size
        have s3 := H.out.1.fl q hf
        omega)
      have htu := turn_any g w3
      have H3 := Lib.hid (And.intro b3' (And.intro h3 (And.intro hwr htu)))
      clear b3 b3' h3 hwr o3 htu H2
      go_wp2_with fail
      refine H3.out.2.2.2.mono ?_
      rintro e w4 ⟨rfl, rfl⟩
      go_wp2_with fail
      refine H3.out.2.2.1.mono ?_
      rintro e w4 ⟨rfl, hd4, ho4⟩
      have hdone := ds_ahead H.out.1.fl H3.out.1 hd4 ho4
      have hc := H.out.2.2.1
      unfold wroteC wroteD at hc
      by_cases h0 : wcode D ((g % 2 : Nat) : Int) (sealG g l) = 0
      · rw [if_pos h0, if_pos h0] at hc
        have HE := Lib.hid hc
        have hfl := dflush_any hdone.1 (H.out.2.2.2.1.small (by omega))
        rw [h0]
        have HD := Lib.hid (And.intro hdone hfl)
        clear hc h0 hd4 ho4 hdone hfl
        go_wp2_with fail
        refine HD.out.2.mono ?_
        rintro e w5 ⟨rfl, hd5, ho5⟩
        have hfin := ds_then H.out.1.fl HD.out.1.2 hd5 ho5
        have HF := Lib.hid hfin
        clear hd5 ho5 hfin
        go_wp2
        go_ret
        rw [HE.out.1, HE.out.2]
        exact ⟨rfl, HF.out⟩
      · have h0' : (wcode D ((g % 2 : Nat) : Int) (sealG g l) != 0) = true := by simpa using h0
        rw [if_neg h0, if_neg h0] at hc
        have HE := Lib.hid hc
        have HD := Lib.hid hdone
        clear hc h0 hd4 ho4 hdone
        generalize wcode D ((g % 2 : Nat) : Int) (sealG g l) = c at *
        go_wp2
        go_ret
        rw [HE.out.1, HE.out.2]
        exact ⟨rfl, HD.out⟩
  · have e := save_not (D := D) (l := l) hm
    rw [e.1, e.2]
    have HF := Lib.hid (d_same h)
    by_cases h1 : genB g = true
    · have h2' : (D.bk.length : Int) < 2 := by
        by_cases h2 : 2 ≤ D.bk.length
        · exact absurd ⟨h1, h2⟩ hm
        · omega
      rw [h1] at hmg
      clear hm e h1 h hl hu
      go_enter Try.func11, Try.ntmps11
      go_wp2_with fail
      refine hmg.mono ?_
      rintro e w1 ⟨rfl, rfl⟩
      go_wp2_with fail
      refine hsz.mono ?_
      rintro e w1 ⟨rfl, rfl⟩
      go_wp2
      go_ret
      exact ⟨rfl, HF.out⟩
    · have h1' : genB g = false := by simpa using h1
      rw [h1'] at hmg
      clear hm e h1 h1' h hl hu
      go_enter Try.func11, Try.ntmps11
      go_wp2_with fail
      refine hmg.mono ?_
      rintro e w1 ⟨rfl, rfl⟩
      go_wp2
      go_ret
      exact ⟨rfl, HF.out⟩
end
end Go.Proofs.Ytcpapdpnnlnemaa
