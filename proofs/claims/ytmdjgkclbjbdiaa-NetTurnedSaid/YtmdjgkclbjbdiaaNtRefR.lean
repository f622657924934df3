/- The document's Right and Within; no condition. -/
import Derived.Test.YtmdjgkclbjbdiaaNtKeep
namespace Go.Proofs.Ytmdjgkclbjbdiaa
open Go.RowKit

theorem node_any (n : Int) (va : Option Addr) (vn vc : Nat) (i : Int) (w : World) : Calls Try.prog 30 #[netV n (.slice va vn vc), .int .i64 i] w fun e w' => e = .returned (.bool (decide (0 ≤ i ∧ i < n))) ∧ Below w.heap.size w w' := by
  have hb : Below w.heap.size w (w.alloc (.cells #[.int .i64 n, .slice va vn vc] 24)) := (Below.refl _ _).alloc (Nat.le_refl _) _
  have HB := Lib.hid hb
  clear hb
  by_cases h1 : 0 ≤ i
  · by_cases h2 : i < n
    · rw [decide_eq_true ⟨h1, h2⟩]
      go_enter Try.func30, Try.ntmps30
      go_wp2
      go_ret
      exact ⟨rfl, HB.out⟩
    · rw [decide_eq_false (fun h => h2 h.2)]
      go_enter Try.func30, Try.ntmps30
      go_wp2
      go_ret
      exact ⟨rfl, HB.out⟩
  · rw [decide_eq_false (fun h => h1 h.1)]
    go_enter Try.func30, Try.ntmps30
    go_wp2
    go_ret
    exact ⟨rfl, HB.out⟩

/-- The costs of the first k edges, full, signs aside. -/
def wtT (e : Ed) : Nat := upT (e, e.cap) + dnT (e, e.cap)
def wtN (es : List Ed) : Nat := (es.map wtT).sum
theorem wtN_full : ∀ es : List Ed, wtN es = upN (full es) + dnN (full es)
  | [] => rfl
  | e :: r => by
    have := wtN_full r
    unfold wtN full upN dnN wtT at *
    simp only [List.map_cons, List.sum_cons] at *
    omega
theorem wtN_take {es : List Ed} {k : Nat} {e : Ed} (h : es[k]? = some e) : wtN (es.take (k + 1)) = wtN (es.take k) + wtT e := sum_take _ _ h
theorem wtN_le {es : List Ed} {k : Nat} : wtN (es.take k) ≤ wtN es := by
  have : wtN es = wtN (es.take k) + wtN (es.drop k) := by
    unfold wtN
    rw [← List.sum_append, ← List.map_append, List.take_append_drop]
  omega
theorem wtT_eq {n : Int} {e : Ed} (h : Perm n e) : (wtT e : Int) = e.cap * max e.cost (-e.cost) ∧ wtT e ≤ 4503599627370496000 := by
  have hs := h.small.le
  unfold Perm at h
  unfold wtT upT dnT at *
  simp only at hs ⊢
  by_cases hc : e.cost < 0
  · rw [if_pos hc, if_pos hc] at hs ⊢
    rw [show max e.cost (-e.cost) = -e.cost by omega]
    have := Int.mul_nonneg (show 0 ≤ e.cap by omega) (show 0 ≤ -e.cost by omega)
    omega
  · rw [if_neg hc, if_neg hc] at hs ⊢
    rw [show max e.cost (-e.cost) = e.cost by omega]
    have := Int.mul_nonneg (show 0 ≤ e.cap by omega) (show 0 ≤ e.cost by omega)
    omega

/-- The first k edges are permitted, and cost so much at most. -/
def RTo (n : Int) (es : List Ed) (k : Nat) : Prop := (∀ e ∈ es.take k, Perm n e) ∧ wtN (es.take k) ≤ 4611686018427387904
theorem RTo.more {n : Int} {es : List Ed} {k : Nat} {e : Ed} (h : RTo n es k) (he : es[k]? = some e) (hp : Perm n e) (hw : wtN (es.take (k + 1)) ≤ 4611686018427387904) : RTo n es (k + 1) := by
  refine ⟨fun x hx => ?_, hw⟩
  rw [List.take_add_one, he] at hx
  rcases List.mem_append.1 hx with hx | hx
  · exact h.1 x hx
  · have : x = e := by simpa using hx
    rw [this]; exact hp

set_option maxRecDepth 100000 in
set_option maxHeartbeats 8000000 in
theorem rright_any (n : Int) (es : List Ed) (w : World) {v : Value} (he : Es w v es) :
    Calls Try.prog 14 #[netV n v] w fun e w' => e = .returned (.bool (decide (RightP n es))) ∧ Below w.heap.size w w' := by
  obtain ⟨va, vc, rfl, -, -⟩ := he.shape
  obtain ⟨L, hL⟩ : ∃ L, L = es.length := ⟨_, rfl⟩
  obtain ⟨b, hbv⟩ : ∃ b, b = decide (RightP n es) := ⟨_, rfl⟩
  have hF : ¬ RightP n es → b = false := fun h => by rw [hbv]; exact decide_eq_false h
  have hT : RightP n es → b = true := fun h => by rw [hbv]; exact decide_eq_true h
  rw [← hbv]
  clear hbv
  have hK := NQ.box n he (fls := []) (fun _ h => by cases h)
  rw [← hL] at hK ⊢
  have HK := Lib.hid hK
  have HC := Lib.hid (And.intro hL (And.intro hF hT))
  clear he hK hL hF hT
  by_cases k1 : n < 1
  · obtain rfl := HC.out.2.1 (fun h => by have := h.1; omega)
    clear HC
    go_enter Try.func14, Try.ntmps14
    go_wp2
    go_ret
    exact ⟨rfl, HK.out.under⟩
  by_cases k2 : 40 < n
  · obtain rfl := HC.out.2.1 (fun h => by have := h.2.1; omega)
    clear HC
    go_enter Try.func14, Try.ntmps14
    go_wp2
    go_ret
    exact ⟨rfl, HK.out.under⟩
  by_cases k3 : (200 : Int) < (L : Int)
  · obtain rfl := HC.out.2.1 (fun h => by have := h.2.2.1; have := HC.out.1; omega)
    clear HC
    go_enter Try.func14, Try.ntmps14
    go_wp2
    go_ret
    exact ⟨rfl, HK.out.under⟩
  go_enter Try.func14, Try.ntmps14
  go_wp2
  generalize w.alloc (.cells #[.int .i64 n, .slice va L vc] 24) = w1 at *
  go_loopw [3, 4] (fun s j wr => ∃ k : Nat, j = .int .i64 (k : Int) ∧ k ≤ L ∧ s = .int .i64 (wtN (es.take k) : Int) ∧ RTo n es k ∧ NQ w w.heap.size n (.slice va L vc) es [] wr) (fun _ j _ => L - (intOf j).toNat)
  case atStart => exact ⟨0, rfl, Nat.zero_le _, rfl, ⟨by simp, by simp [wtN]⟩, HK.out⟩
  case round =>
    obtain ⟨k, rfl, hk, rfl, hR, hN⟩ := hrel
    obtain ⟨n0, n1⟩ := hN.net.net
    rcases Nat.lt_or_ge k L with hlt | hge
    · obtain ⟨e, hek⟩ : ∃ e, es[k]? = some e := ⟨_, List.getElem?_eq_getElem (by have := HC.out.1; omega)⟩
      obtain ⟨g, o, cap, e0, hg, f0, f1, f2, f3⟩ := es_at hN.es hek
      simp only [Value.slice.injEq] at e0
      obtain ⟨rfl, -, rfl⟩ := e0
      have hki : (k : Int) < (L : Int) := by omega
      have hk1 : (k : Int) ≤ 9223372036854775806 := by omega
      have hk0 : (0 : Int) ≤ (k : Int) := by omega
      have hN2 := hN.go ((Below.refl wr.heap.size wr).alloc (Nat.le_refl _) (.cells #[.int .i64 e.fr, .int .i64 e.to, .int .i64 e.cap, .int .i64 e.cost] 39))
      obtain ⟨m0, m1⟩ := hN2.net.net
      have ce := Cel.new wr #[.int .i64 e.fr, .int .i64 e.to, .int .i64 e.cap, .int .i64 e.cost] 39
      have P1 := node_any n (some ⟨g, o, none⟩) L vc e.fr (wr.alloc (.cells #[.int .i64 e.fr, .int .i64 e.to, .int .i64 e.cap, .int .i64 e.cost] 39))
      have HR := Lib.hid (And.intro hR (And.intro hek (And.intro hN2 (And.intro hlt ce))))
      clear hR hek hN hN2 hlt hk hg ce
      go_wp2_with fail
      generalize wr.alloc (.cells #[.int .i64 e.fr, .int .i64 e.to, .int .i64 e.cap, .int .i64 e.cost] 39) = wa at *
      by_cases d1 : 0 ≤ e.fr ∧ e.fr < n
      case neg =>
        rw [decide_eq_false d1] at P1
        have HD := Lib.hid d1
        clear d1
        refine P1.mono ?_
        rintro r w3 ⟨rfl, bl⟩
        have HN := Lib.hid (HR.out.2.2.1.go bl)
        clear bl P1
        obtain rfl := HC.out.2.1 (fun h => HD.out (by have := h.2.2.2.1 e (List.mem_of_getElem? HR.out.2.1); exact ⟨this.1, this.2.1⟩))
        go_wp2
        go_ret
        exact ⟨rfl, HN.out.under⟩
      rw [decide_eq_true d1] at P1
      have HD1 := Lib.hid d1
      clear d1
      refine P1.mono ?_
      rintro r w3 ⟨rfl, bl⟩
      have hN3 := HR.out.2.2.1.go bl
      obtain ⟨c0, c1, c2, c3⟩ := Cel.ed (HR.out.2.2.2.2.below bl HR.out.2.2.2.2.lt)
      have P2 := node_any n (some ⟨g, o, none⟩) L vc e.to w3
      obtain ⟨q0, q1⟩ := hN3.net.net
      have HN := Lib.hid hN3
      have HE := Lib.hid (HR.out.2.2.2.2.below bl HR.out.2.2.2.2.lt)
      clear bl P1 hN3 m0 m1 f0 f1 f2 f3 n0 n1
      go_wp2_with fail
      by_cases d2 : 0 ≤ e.to ∧ e.to < n
      case neg =>
        rw [decide_eq_false d2] at P2
        have HD := Lib.hid d2
        clear d2
        refine P2.mono ?_
        rintro r w4 ⟨rfl, bl⟩
        have HN := Lib.hid (HN.out.go bl)
        clear bl P2
        obtain rfl := HC.out.2.1 (fun h => HD.out (by have := h.2.2.2.1 e (List.mem_of_getElem? HR.out.2.1); exact ⟨this.2.2.1, this.2.2.2.1⟩))
        go_wp2
        go_ret
        exact ⟨rfl, HN.out.under⟩
      rw [decide_eq_true d2] at P2
      have HD2 := Lib.hid d2
      clear d2
      refine P2.mono ?_
      rintro r w4 ⟨rfl, bl⟩
      have hN4 := HN.out.go bl
      have hE4 := HE.out.below bl HE.out.lt
      clear HN HE bl P2 c0 c1 c2 c3 q0 q1
      obtain ⟨c0, c1, c2, c3⟩ := Cel.ed hE4
      obtain ⟨q0, q1⟩ := hN4.net.net
      have HN := Lib.hid hN4
      clear hN4 hE4
      by_cases d3 : e.cap < 0
      case pos =>
        obtain rfl := HC.out.2.1 (fun h => by have := h.2.2.2.1 e (List.mem_of_getElem? HR.out.2.1); unfold Perm at this; omega)
        go_wp2
        go_ret
        exact ⟨rfl, HN.out.under⟩
      by_cases d4 : 4503599627370496 < e.cap
      case pos =>
        obtain rfl := HC.out.2.1 (fun h => by have := h.2.2.2.1 e (List.mem_of_getElem? HR.out.2.1); unfold Perm at this; omega)
        go_wp2
        go_ret
        exact ⟨rfl, HN.out.under⟩
      by_cases d5 : e.cost < -1000
      case pos =>
        obtain rfl := HC.out.2.1 (fun h => by have := h.2.2.2.1 e (List.mem_of_getElem? HR.out.2.1); unfold Perm at this; omega)
        go_wp2
        go_ret
        exact ⟨rfl, HN.out.under⟩
      by_cases d6 : 1000 < e.cost
      case pos =>
        obtain rfl := HC.out.2.1 (fun h => by have := h.2.2.2.1 e (List.mem_of_getElem? HR.out.2.1); unfold Perm at this; omega)
        go_wp2
        go_ret
        exact ⟨rfl, HN.out.under⟩
      have hp : Perm n e := by
        have := HD1.out
        have := HD2.out
        unfold Perm
        omega
      have hwt := wtT_eq hp
      have hst := wtN_take HR.out.2.1
      have hle := HR.out.1.2
      have hneg : IntKind.i64.wrap (-e.cost) = -e.cost := IntWalk.i64_in _ (by omega)
      by_cases hm : e.cost < -e.cost
      · have hv : (wtT e : Int) = e.cap * -e.cost := by rw [hwt.1, show max e.cost (-e.cost) = -e.cost by omega]
        have hw1 : wrap64 (e.cap * -e.cost) = e.cap * -e.cost := by have := hwt.2; unfold wrap64; omega
        have hw2 : wrap64 ((wtN (es.take k) : Int) + e.cap * -e.cost) = (wtN (es.take (k + 1)) : Int) := by have := hwt.2; unfold wrap64; omega
        by_cases hs : (4611686018427387904 : Int) < (wtN (es.take (k + 1)) : Int)
        · obtain rfl := HC.out.2.1 (fun h => by have h1 := h.2.2.2.2; rw [← wtN_full] at h1; have := wtN_le (es := es) (k := k + 1); omega)
          have hs0 : (0 : Int) ≤ (wtN (es.take (k + 1)) : Int) := by omega
          clear hwt hst hle hv hp
          go_wp2
          go_ret
          exact ⟨rfl, HN.out.under⟩
        · have HL := Lib.hid (HR.out.1.more HR.out.2.1 hp (by omega))
          have hs0 : (0 : Int) ≤ (wtN (es.take (k + 1)) : Int) := by omega
          clear hwt hst hle hv hp
          go_wp2
          go_roundw
          case rel => exact ⟨k + 1, by go_num, HR.out.2.2.2.1, rfl, HL.out, HN.out⟩
          case measure =>
            have := HR.out.2.2.2.1
            simp only [intOf]
            omega
      · have hv : (wtT e : Int) = e.cap * e.cost := by rw [hwt.1, show max e.cost (-e.cost) = e.cost by omega]
        have hw1 : wrap64 (e.cap * e.cost) = e.cap * e.cost := by have := hwt.2; unfold wrap64; omega
        have hw2 : wrap64 ((wtN (es.take k) : Int) + e.cap * e.cost) = (wtN (es.take (k + 1)) : Int) := by have := hwt.2; unfold wrap64; omega
        by_cases hs : (4611686018427387904 : Int) < (wtN (es.take (k + 1)) : Int)
        · obtain rfl := HC.out.2.1 (fun h => by have h1 := h.2.2.2.2; rw [← wtN_full] at h1; have := wtN_le (es := es) (k := k + 1); omega)
          have hs0 : (0 : Int) ≤ (wtN (es.take (k + 1)) : Int) := by omega
          clear hwt hst hle hv hp
          go_wp2
          go_ret
          exact ⟨rfl, HN.out.under⟩
        · have HL := Lib.hid (HR.out.1.more HR.out.2.1 hp (by omega))
          have hs0 : (0 : Int) ≤ (wtN (es.take (k + 1)) : Int) := by omega
          clear hwt hst hle hv hp
          go_wp2
          go_roundw
          case rel => exact ⟨k + 1, by go_num, HR.out.2.2.2.1, rfl, HL.out, HN.out⟩
          case measure =>
            have := HR.out.2.2.2.1
            simp only [intOf]
            omega
    · obtain rfl : k = L := by omega
      have hki : ¬ (k : Int) < (k : Int) := by omega
      have hfin : RightP n es := by
        have hl := HC.out.1
        unfold RTo at hR
        rw [hl, List.take_length, wtN_full] at hR
        exact ⟨by omega, by omega, by omega, hR.1, hR.2⟩
      obtain rfl := HC.out.2.2 hfin
      have HN := Lib.hid hN
      clear hfin hR hN hk hge
      go_wp2
      go_ret
      exact ⟨rfl, HN.out.under⟩
end Go.Proofs.Ytmdjgkclbjbdiaa
