/- The walk of TreeNil: it returns true and writes nothing that was there; no condition. -/
import Derived.Test.YtgekeemhbnhelaaGreatK34
namespace Go.Proofs.YtgekeemhbnhelaaGreat
open Go.RowKit

set_option maxRecDepth 100000 in
set_option maxHeartbeats 16000000 in
theorem treeNil_any {kv vv : Value} {key val : Bytes} (root fro : Int) (w : World) (hk : Bs w kv key) (hv : Bs w vv val) (_ : (Lit.int .i64 root).wf = true) (_ : (Lit.int .i64 fro).wf = true) :
    Calls Tryz.prog 7 #[.int .i64 root, .int .i64 fro, kv, vv] w (Yes w) := by
  obtain ⟨ka, kc, rfl, _⟩ := hk.shape
  obtain ⟨va, vc, rfl, _⟩ := hv.shape
  obtain ⟨kn, hkn⟩ : ∃ kn, kn = key.length := ⟨_, rfl⟩
  obtain ⟨vn, hvn⟩ : ∃ vn, vn = val.length := ⟨_, rfl⟩
  rw [← hkn] at hk
  rw [← hvn] at hv
  rw [← hkn, ← hvn]
  have HH := Lib.hid (And.intro hk hv)
  clear hk hv hkn hvn
  have heavy : 200 < (kn : Int) ∨ 500 < (vn : Int) → Calls Tryz.prog 7 #[.int .i64 root, .int .i64 fro, .slice ka kn kc, .slice va vn vc] w (Yes w) := fun hh => by
    have WK := tworks_any w
    by_cases h1 : 200 < (kn : Int)
    · clear hh
      go_enter Tryz.func7, Tryz.ntmps7
      go_wp2_with fail
      refine WK.mono ?_
      rintro e w1 ⟨rfl, hb⟩
      clear WK
      go_wp2
      go_ret
      exact ⟨rfl, hb⟩
    · have h2 : 500 < (vn : Int) := hh.resolve_left h1
      clear hh
      go_enter Tryz.func7, Tryz.ntmps7
      go_wp2_with fail
      refine WK.mono ?_
      rintro e w1 ⟨rfl, hb⟩
      clear WK
      go_wp2
      go_ret
      exact ⟨rfl, hb⟩
  by_cases h1 : 200 < (kn : Int)
  · exact heavy (.inl h1)
  by_cases h2 : 500 < (vn : Int)
  · exact heavy (.inr h2)
  clear heavy
  have G1 := get_nil (root := root) w HH.out.1
  go_enter Tryz.func7, Tryz.ntmps7
  go_wp2_with fail
  refine G1.mono ?_
  rintro e w1 ⟨rfl, rfl⟩
  clear G1
  have P1 := tput_nil (root := root) HH.out.1 HH.out.2
  go_wp2_with fail
  refine P1.mono ?_
  rintro e w2 ⟨rfl, hb2⟩
  clear P1
  have C1 := tcut_nil (root := root) (HH.out.1.below hb2)
  have H2 := Lib.hid hb2
  clear hb2
  go_wp2_with fail
  refine C1.mono ?_
  rintro e w3 ⟨rfl, hb3⟩
  clear C1
  have S1 := scan_nil root (.slice none 0 0) (.slice none 0 0) w3
  have H3 := Lib.hid (H2.out.trans (hb3.mono H2.out.size))
  clear hb3 H2
  go_wp2_with fail
  refine S1.mono ?_
  rintro e w4 ⟨rfl, hb4⟩
  clear S1
  have W1 := walk_nil root w4
  have H4 := Lib.hid (H3.out.trans (hb4.mono H3.out.size))
  clear hb4 H3
  go_wp2_with fail
  refine W1.mono ?_
  rintro e w5 ⟨rfl, hb5⟩
  clear W1
  have B1 := build_nil (.slice none 0 0) w5
  have H5 := Lib.hid (H4.out.trans (hb5.mono H4.out.size))
  clear hb5 H4
  go_wp2_with fail
  refine B1.mono ?_
  rintro e w6 ⟨rfl, rfl⟩
  clear B1
  have D1 := m_new 20 w5 (by omega) (by omega)
  go_wp2_with fail
  refine D1.mono ?_
  rintro e w7 ⟨db, rfl, F, hd, hF, hb7⟩
  clear D1
  have P1 := pgnew_ok 8 w7 (by omega) (by omega)
  have H7 := Lib.hid (And.intro hd (And.intro hF (H5.out.trans (hb7.mono H5.out.size))))
  clear hd hF hb7 H5
  go_wp2_with fail
  refine P1.mono ?_
  rintro e w8 ⟨pb, rfl, hp, hb8⟩
  clear P1
  have hd8 := H7.out.1.below hb8
  have H8 := Lib.hid (And.intro hp (And.intro hb8 (And.intro hd8 (H7.out.2.2.trans (hb8.mono H7.out.2.2.size)))))
  have hlen : (Go.Proofs.YtgekeemhbnhelaaGreat.fresh 20).bk.length = 20 := by simp [Go.Proofs.YtgekeemhbnhelaaGreat.fresh]
  have hpl : (freshP 8).length = 8 := freshP_length 8
  by_cases hr : fro < 0 ∨ 12 < fro
  · have T1 := tnew_arg hd8 hp fro (by rw [hlen, hpl]; omega)
    have WK := tworks_any w8
    have WS := Lib.hid WK
    clear hp hb8 hd8 hlen hpl WK
    rcases Classical.em (fro < 0) with h3 | h3
    · clear hr
      go_wp2_with fail
      refine T1.mono ?_
      rintro e w9 ⟨rfl, rfl⟩
      clear T1
      go_wp2_with fail
      refine WS.out.mono ?_
      rintro e w10 ⟨rfl, hb⟩
      have HB := Lib.hid (H8.out.2.2.2.trans (hb.mono H8.out.2.2.2.size))
      clear hb
      go_wp2
      go_ret
      exact ⟨rfl, HB.out⟩
    · have h4 : 12 < fro := hr.resolve_left h3
      clear hr
      go_wp2_with fail
      refine T1.mono ?_
      rintro e w9 ⟨rfl, rfl⟩
      clear T1
      go_wp2_with fail
      refine WS.out.mono ?_
      rintro e w10 ⟨rfl, hb⟩
      have HB := Lib.hid (H8.out.2.2.2.trans (hb.mono H8.out.2.2.2.size))
      clear hb
      go_wp2
      go_ret
      exact ⟨rfl, HB.out⟩
  · obtain ⟨fn, rfl⟩ := Int.eq_ofNat_of_zero_le (show 0 ≤ fro by omega)
    have h3 : ¬ (fn : Int) < 0 := by omega
    have h4 : ¬ 12 < (fn : Int) := by omega
    have T1 := tnew_ok hd8 hp fn (by rw [hlen, hpl]; omega)
    have hroom : fn + (freshP 8).length ≤ (Go.Proofs.YtgekeemhbnhelaaGreat.fresh 20).bk.length := by rw [hlen, hpl]; omega
    have HR := Lib.hid hroom
    clear hp hb8 hd8 hlen hpl hr hroom
    go_wp2_with fail
    refine T1.mono ?_
    rintro e w9 ⟨rfl, hc, hb9⟩
    clear T1
    obtain ⟨hp, hb8, hd8, hbw⟩ := H8.out
    have hd := H7.out.1
    have hT := tree_at (fr := fn) hd8 hp (fun q hf hg => by have := hd.fl q hf; have := hg.1; omega) (fun q hf => by have := hd.fl q hf; have := hb8.size; omega) (fun q hg => hg.2) hb9 hc HR.out
    have H9 := Lib.hid (And.intro hT (hbw.trans (hb9.mono hbw.size)))
    have N1 := tnew_nil (.pointer none) (ptr pb) (fn : Int) (.inl rfl) w9
    have N2 := tnew_nil (ptr db) (.pointer none) (fn : Int) (.inr ⟨rfl, db, rfl⟩) w9
    clear hp hb8 hd8 hbw hd hT hc hb9
    go_wp2_with fail
    refine N1.mono ?_
    rintro e w10 ⟨rfl, rfl⟩
    clear N1
    go_wp2_with fail
    refine N2.mono ?_
    rintro e w10 ⟨rfl, rfl⟩
    clear N2
    by_cases hr : -1 ≤ root ∧ root < 8
    · have h5 : -1 ≤ root := hr.1
      have h6 : root < 8 := hr.2
      have WS := Lib.hid (tworks_any w9)
      clear hr
      go_wp2_with fail
      refine WS.out.mono ?_
      rintro e w10 ⟨rfl, hb⟩
      have HB := Lib.hid (H9.out.2.trans (hb.mono H9.out.2.size))
      clear hb
      go_wp2
      go_ret
      exact ⟨rfl, HB.out⟩
    · have hrb : rootB (freshP 8).length root = false := by
        rw [freshP_length]
        unfold rootB
        rw [decide_eq_false_iff_not]
        exact hr
      have W1 := walk_arg H9.out.1 hrb
      have HRB := Lib.hid hrb
      have tail : ∀ w10, Below w9.heap.size w9 w10 → True := fun _ _ => trivial
      clear hrb tail
      rcases Classical.em (-1 ≤ root) with h5 | h5
      · have h6 : ¬ root < 8 := fun h => hr ⟨h5, h⟩
        clear hr
        go_wp2_with fail
        refine W1.mono ?_
        rintro e w10 ⟨rfl, hb10⟩
        clear W1
        have hT10 := H9.out.1.below hb10
        have S1 := scan_arg hT10 HRB.out (.slice none 0 0) (.slice none 0 0)
        have H10 := Lib.hid (And.intro hT10 (H9.out.2.trans (hb10.mono H9.out.2.size)))
        clear hT10 hb10
        go_wp2_with fail
        refine S1.mono ?_
        rintro e w11 ⟨rfl, hb11⟩
        clear S1
        have BB := bl_any 97 w11
        have H11 := Lib.hid (And.intro (H10.out.1.below hb11) (H10.out.2.trans (hb11.mono H10.out.2.size)))
        clear hb11
        go_wp2_with fail
        refine BB.mono ?_
        rintro e w12 ⟨bv, rfl, hbs, hb12, _⟩
        clear BB
        have G1 := get_arg (root := root) w12 (H11.out.1.below hb12) hbs (by rw [HRB.out]; simp)
        obtain ⟨ba, bc, rfl, _⟩ := hbs.shape
        have WS := Lib.hid (tworks_any w12)
        have H12 := Lib.hid (H11.out.2.trans (hb12.mono H11.out.2.size))
        clear hbs hb12
        go_wp2_with fail
        refine G1.mono ?_
        rintro e w13 ⟨rfl, rfl⟩
        clear G1
        go_wp2_with fail
        refine WS.out.mono ?_
        rintro e w14 ⟨rfl, hb⟩
        have HB := Lib.hid (H12.out.trans (hb.mono H12.out.size))
        clear hb
        go_wp2
        go_ret
        exact ⟨rfl, HB.out⟩
      · clear hr
        go_wp2_with fail
        refine W1.mono ?_
        rintro e w10 ⟨rfl, hb10⟩
        clear W1
        have hT10 := H9.out.1.below hb10
        have S1 := scan_arg hT10 HRB.out (.slice none 0 0) (.slice none 0 0)
        have H10 := Lib.hid (And.intro hT10 (H9.out.2.trans (hb10.mono H9.out.2.size)))
        clear hT10 hb10
        go_wp2_with fail
        refine S1.mono ?_
        rintro e w11 ⟨rfl, hb11⟩
        clear S1
        have BB := bl_any 97 w11
        have H11 := Lib.hid (And.intro (H10.out.1.below hb11) (H10.out.2.trans (hb11.mono H10.out.2.size)))
        clear hb11
        go_wp2_with fail
        refine BB.mono ?_
        rintro e w12 ⟨bv, rfl, hbs, hb12, _⟩
        clear BB
        have G1 := get_arg (root := root) w12 (H11.out.1.below hb12) hbs (by rw [HRB.out]; simp)
        obtain ⟨ba, bc, rfl, _⟩ := hbs.shape
        have WS := Lib.hid (tworks_any w12)
        have H12 := Lib.hid (H11.out.2.trans (hb12.mono H11.out.2.size))
        clear hbs hb12
        go_wp2_with fail
        refine G1.mono ?_
        rintro e w13 ⟨rfl, rfl⟩
        clear G1
        go_wp2_with fail
        refine WS.out.mono ?_
        rintro e w14 ⟨rfl, hb⟩
        have HB := Lib.hid (H12.out.trans (hb.mono H12.out.size))
        clear hb
        go_wp2
        go_ret
        exact ⟨rfl, HB.out⟩
end Go.Proofs.YtgekeemhbnhelaaGreat
