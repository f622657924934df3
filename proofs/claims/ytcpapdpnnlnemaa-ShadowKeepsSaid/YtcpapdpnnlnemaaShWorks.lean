/- The anchor of the statements of layer 8 (the chapter's examples): it answers true and writes nothing that was there; no condition. -/
import Derived.Test.YtcpapdpnnlnemaaShOwn
namespace Go.Proofs.Ytcpapdpnnlnemaa
open Go.RowKit Go.Maps

theorem calm_upto {a b : Bytes} {r : List Bk} {on : Bool} {left : Int} (hr : Calm r) : Upto (Qd a b r on left) 0 := fun k x hx => by
  match k, hx with
  | 0, hx => cases hx; exact Nat.le_refl _
  | 1, hx => cases hx; exact Nat.le_refl _
  | k + 2, hx =>
    have hx : r[k]? = some x := hx
    rw [← hr.1] at hx
    unfold flushed at hx
    rw [List.getElem?_map] at hx
    obtain ⟨y, _, rfl⟩ := Option.map_eq_some_iff.1 hx
    exact Nat.le_refl _
theorem Kept.upto {D : Dv} {r : List Bk} {g : Nat} {l : Bytes} (h : Kept D r g l) (hr : Calm r) : Upto D 0 := by
  obtain ⟨a, b, rfl, _⟩ := h
  exact calm_upto hr
theorem Kept.on {D : Dv} {r : List Bk} {g : Nat} {l : Bytes} (h : Kept D r g l) : D.on = true := by
  obtain ⟨a, b, rfl, _⟩ := h
  rfl
theorem sDev_upto {D : Dv} {n : Nat} (h : Upto D n) (g : Nat) (l : Bytes) : Upto (sDev D g l) (n + 2) ∧ (sDev D g l).bk.length = D.bk.length := by
  have h1 := wdev_upto h ((g % 2 : Nat) : Int) (sealG g l)
  have h2 := fdev_upto h1.1
  unfold sDev
  split
  · split
    · exact ⟨h.more (by omega), rfl⟩
    · split
      · exact ⟨h2.1, h2.2.trans h1.2⟩
      · exact ⟨h1.1.more (by omega), h1.2⟩
  · exact ⟨h.more (by omega), rfl⟩

def d1 : Dv := sDev (fresh 2) 1 [97]
def d2 : Dv := sDev d1 2 [98]
theorem d1_kept : sCode (fresh 2) 1 [97] = 0 ∧ Kept d1 [] 1 [97] := by rw [fresh_two]; exact fresh_save calm_nil (by decide) (by decide)
theorem d2_kept : sCode d1 2 [98] = 0 ∧ Kept d2 [] 2 [98] := d1_kept.2.next calm_nil (by decide) (by decide)
/-- Armed with one, saved, off: what was there. -/
theorem Kept.goes {D : Dv} {r : List Bk} {g h : Nat} {l x : Bytes} (hk : Kept D r g l) (hr : Calm r) (hg : genB h = true) (hx : x.length ≤ 480) :
    sCode (adev D 1) h x = 8 ∧ ndev (sDev (adev D 1) h x) [] = D := by
  obtain ⟨a, b, rfl, _⟩ := hk
  have e0 : adev (Qd a b r true (-1)) 1 = Qd a b r true 1 := rfl
  rw [e0]
  obtain ⟨e1, e2⟩ := save_second (D := Qd a b r true 1) hg rfl rfl (qd_len _) hx
  refine ⟨e1, ?_⟩
  rw [e2]
  unfold ndev
  rw [if_pos rfl]
  simp only [Qd]
  rw [qd_comes_none hr]

set_option maxRecDepth 1000000 in
set_option maxHeartbeats 2000000 in
theorem works_any (w : World) : Calls Try.prog 8 #[] w (Yes w) := by
  have hcv := fun (w : World) (C : Array Value) (n c : Nat) => Lib.run_convert_bytes_const (P := Try.prog) w 33 5 C n c Try.underlying33 Try.underlying5
  have L0 : loadV (fresh 2) = (0, [], 4) := by rw [fresh_two]; exact fresh_load
  have L2 := d2_kept.2.load
  have G := d2_kept.2.goes (h := 3) (x := [99]) calm_nil (by decide) (by decide)
  have U0 : Upto (fresh 2) 0 := by rw [fresh_two]; exact calm_upto calm_nil
  have U1 := d1_kept.2.upto calm_nil
  have U2 := d2_kept.2.upto calm_nil
  have O2 := d2_kept.2.on
  have C1 := d1_kept.1
  have C2 := d2_kept.1
  have S0 : sCode d2 0 [] = 1 ∧ sDev d2 0 [] = d2 := save_not fun h => by have := h.1; revert this; decide
  have S6 : sCode d2 3 (List.replicate 481 0) = 6 := (save_many ⟨by decide, by obtain ⟨a, b, e, _⟩ := d2_kept.2; rw [e]; exact qd_len _⟩ (by rw [List.length_replicate]; decide)).1
  have HS := Lib.hid (And.intro S0 S6)
  clear S0 S6
  have H := Lib.hid (And.intro L0 (And.intro L2 (And.intro G (And.intro U0 (And.intro U1 (And.intro U2 (And.intro O2 (And.intro C1 C2))))))))
  clear L0 L2 G U0 U1 U2 O2 C1 C2
  go_enter Try.func8, Try.ntmps8
  go_wp2_with fail
  refine (own_new 2 w (by decide) (by decide)).mono ?_
  rintro e w1 ⟨b, rfl, h1⟩
  have H1 := Lib.hid h1
  clear h1
  go_wp2_with fail
  refine (own_load H1.out).mono ?_
  rintro e w2 ⟨v2, he, h2⟩
  rw [H.out.1] at he
  subst he
  have H2 := Lib.hid (h2.forget (R := fun _ => True) fun _ _ => trivial)
  clear h2 H1
  go_wp2_with fail
  refine (own_save 1 (H2.out.later (below_text w2 #[.int .u8 97] (1, 2))) H.out.2.2.2.1 (by decide) (by decide) (bs_text w2 _ [97] 1 (1, 2) rfl rfl (by decide))).mono ?_
  rintro e w3 ⟨he, h3⟩
  rw [H.out.2.2.2.2.2.2.2.1] at he
  subst he
  have H3 := Lib.hid h3
  clear h3 H2
  go_wp2_with fail
  refine (own_save 2 (H3.out.later (below_text w3 #[.int .u8 98] (1, 2))) H.out.2.2.2.2.1 (by decide) (by decide) (bs_text w3 _ [98] 1 (1, 2) rfl rfl (by decide))).mono ?_
  rintro e w4 ⟨he, h4⟩
  rw [show sCode (sDev (fresh 2) 1 [97]) 2 [98] = 0 from H.out.2.2.2.2.2.2.2.2] at he
  subst he
  have H4 : Hid (Own w w4 b d2 fun _ => True) := Lib.hid h4
  clear h4 H3
  go_wp2_with fail
  refine (own_load H4.out).mono ?_
  rintro e w5 ⟨v5, he, h5⟩
  rw [H.out.2.1] at he h5
  subst he
  have H5 := Lib.hid h5
  clear h5 H4
  go_wp2_with fail
  refine (own_arm H5.out 1 (by decide)).mono ?_
  rintro e w6 ⟨rfl, h6⟩
  have H6 := Lib.hid h6
  clear h6 H5
  have U6 := (adev_upto H.out.2.2.2.2.2.1 1).1
  have HU6 := Lib.hid U6
  clear U6
  go_wp2_with fail
  refine (own_save 3 (H6.out.later (below_text w6 #[.int .u8 99] (1, 2))) HU6.out (by decide) (by decide) (bs_text w6 _ [99] 1 (1, 2) rfl rfl (by decide))).mono ?_
  rintro e w7 ⟨he, h7⟩
  rw [H.out.2.2.1.1] at he
  subst he
  have H7 := Lib.hid (And.intro h7 (sDev_upto HU6.out 3 [99]).1)
  clear h7 H6
  go_wp2_with fail
  refine (own_on H7.out.1 H7.out.2 (by decide) (Iv.nil w)).mono ?_
  rintro e w8 ⟨rfl, h8⟩
  rw [H.out.2.2.1.2] at h8
  have H8 := Lib.hid h8
  clear h8 H7
  go_wp2_with fail
  refine (own_load H8.out).mono ?_
  rintro e w9 ⟨v9, he, h9⟩
  rw [H.out.2.1] at he h9
  subst he
  have H9 := Lib.hid h9
  clear h9 H8
  have r5 := run_string_bs bt (d := 9) Try.underlying9 w9 H9.out.now.1.2
  have r9 := run_string_bs bt (d := 9) Try.underlying9 w9 H9.out.now.2
  go_wp2_with fail
  refine (own_save 0 H9.out H.out.2.2.2.2.2.1 (by decide) (by decide) (Bs.nil _)).mono ?_
  rintro e w10 ⟨he, h10⟩
  rw [HS.out.1.1] at he
  rw [HS.out.1.2] at h10
  subst he
  obtain ⟨w11, hmk, o11, g11⟩ := run_zeros_bs bt w10 w10.heap.size .i64 .i64 481 (by decide) (Nat.le_refl _)
  rw [show ((481 : Nat) : Int) = 481 from rfl] at hmk
  have b11 : Below w10.heap.size w10 w11 := (Below.refl _ _).grown g11 (Nat.le_refl _) (fun _ h => by cases h)
  have H11 := Lib.hid (And.intro (h10.later b11) o11.bs)
  clear h10 b11 o11 g11 H9 r5 r9
  go_wp2_with fail
  refine (own_save 3 H11.out.1 H.out.2.2.2.2.2.1 (by decide) (by decide) H11.out.2).mono ?_
  rintro e w12 ⟨he, h12⟩
  rw [HS.out.2] at he
  subst he
  have H12 := Lib.hid h12.under
  clear h12 H11 hmk
  go_wp2
  go_ret
  exact ⟨rfl, H12.out⟩
end Go.Proofs.Ytcpapdpnnlnemaa
