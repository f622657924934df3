/- How much may be pushed along a way: the document's, bit by bit; condition: a net of at most 2000 edges. -/
import Derived.Test.YtohcoknnalgjnaaRsRef4
import Derived.Test.YtohcoknnalgjnaaRsLawP
namespace Go.Proofs.Ytohcoknnalgjnaa
open Go.RowKit

theorem code_iff {n : Int} {es : List Ed} {fl arcs : List Int} {b : Int} (h : 1 ≤ b) : (alongP n es fl arcs b).2 = 0 ↔ b ≤ bottleP n es fl arcs := by
  by_cases hok : WithinP n es fl ∧ WayP es arcs
  · rw [along_code]
    exact ⟨fun k => k.2.2.2, fun k => ⟨hok.1, hok.2, by omega, k⟩⟩
  · rw [along_none_code hok, bottle_none hok]
    simp only
    omega
theorem pow_le52 {k : Nat} (h : k ≤ 52) : 1 ≤ (2 : Int) ^ k ∧ (2 : Int) ^ k ≤ 4503599627370496 := by
  have h1 : (1 : Nat) ≤ 2 ^ k := Nat.one_le_two_pow
  have h2 : (2 : Nat) ^ k ≤ 2 ^ 52 := Nat.pow_le_pow_right (by decide) h
  have h3 : ((2 : Nat) ^ k : Nat) = ((2 : Int) ^ k) := by simp
  have h4 : (2 : Nat) ^ 52 = 4503599627370496 := by decide
  rw [h4] at h2
  omega

set_option maxRecDepth 100000 in
set_option maxHeartbeats 16000000 in
theorem rbottle_any (n : Int) (es : List Ed) (fl arcs : List Int) (w : World) {v x y : Value} (he : Es w v es) (hf : Fs w x fl) (hy : Fs w y arcs) (hn : es.length ≤ 2000) :
    Calls Try.prog 24 #[netV n v, x, y] w fun e w' => e = .returned (.int .i64 (bottleP n es fl arcs)) ∧ Below w.heap.size w w' := by
  obtain ⟨va, vc, rfl, -, -⟩ := he.shape
  obtain ⟨xa, xc, rfl, -, -⟩ := hf.shape
  obtain ⟨ya, yc, rfl, -, -⟩ := hy.shape
  have hK := NQ.box n he (fls := [(.slice xa fl.length xc, fl), (.slice ya arcs.length yc, arcs)]) (fun p hp => by
    rcases List.mem_cons.1 hp with rfl | hp
    · exact hf
    · rw [List.mem_singleton.1 hp]; exact hy)
  clear he hf hy
  have HA := Lib.hid (fun b W (h : NQ w w.heap.size n (.slice va es.length vc) es [(.slice xa fl.length xc, fl), (.slice ya arcs.length yc, arcs)] W) => ralong_any n es fl arcs b W h.es (h.fl (.slice xa fl.length xc, fl) (by simp)) (h.fl (.slice ya arcs.length yc, arcs) (by simp)) hn)
  have HCd := Lib.hid (fun b (h : 1 ≤ b) => code_iff (n := n) (es := es) (fl := fl) (arcs := arcs) h)
  have hble := bottle_le (n := n) (es := es) (fl := fl) (arcs := arcs)
  obtain ⟨B, hB⟩ : ∃ B, B = bottleP n es fl arcs := ⟨_, rfl⟩
  rw [← hB] at HCd hble ⊢
  have HK := Lib.hid hK
  have HL := Lib.hid hble
  clear hK hB hble hn
  go_enter Try.func24, Try.ntmps24
  go_wp2
  generalize w.alloc (.cells #[.int .i64 n, .slice va es.length vc] 24) = w1 at *
  go_loopw [8, 7] (fun j q wr => ∃ k : Nat, j = .int .i64 ((k : Int) - 1) ∧ k ≤ 53 ∧ (∃ z, q = .int .i64 z ∧ 0 ≤ z ∧ z ≤ B ∧ B < z + (2 : Int) ^ k) ∧ NQ w w.heap.size n (.slice va es.length vc) es [(.slice xa fl.length xc, fl), (.slice ya arcs.length yc, arcs)] wr) (fun j _ _ => (intOf j + 1).toNat)
  case atStart => exact ⟨53, by simp, by omega, ⟨0, rfl, by omega, HL.out.1, by have := HL.out.2; omega⟩, HK.out⟩
  case round =>
    obtain ⟨k, rfl, hk, ⟨z, rfl, hz0, hzB, hBz⟩, hq⟩ := hrel
    clear HK
    rcases Nat.eq_zero_or_pos k with rfl | hpos
    · obtain rfl : z = B := by simp at hBz; omega
      have hki : ¬ (0 : Int) ≤ ((0 : Nat) : Int) - 1 := by omega
      have HQ := Lib.hid hq
      clear hq hk hz0 hzB hBz
      go_wp2
      go_ret
      exact ⟨rfl, HQ.out.under⟩
    · obtain ⟨i, rfl⟩ : ∃ i, k = i + 1 := ⟨k - 1, by omega⟩
      have hp := pow_le52 (k := i) (by omega)
      have hki : (((i + 1 : Nat) : Int) - 1) = (i : Int) := by omega
      rw [hki]
      have hi0 : (0 : Int) ≤ (i : Int) := by omega
      have hpow : (2 : Int) ^ (i + 1) = 2 ^ i + 2 ^ i := by rw [Int.pow_succ]; omega
      have hiw : wrap64 ((i : Int) - 1) = (i : Int) - 1 := by unfold wrap64; omega
      have HBd := HL.out
      have hzw : wrap64 (z + 2 ^ i) = z + 2 ^ i := by unfold wrap64; omega
      have P := HA.out (z + 2 ^ i) wr hq
      have hc := HCd.out (z + 2 ^ i) (by omega)
      obtain ⟨n0, n1⟩ := hq.net.net
      by_cases hzc : z + 2 ^ i ≤ B
      · rw [hc.2 hzc] at P
        have HQ := Lib.hid (And.intro hq (And.intro hzc (And.intro hBz (And.intro hpow (And.intro hz0 (And.intro hp hk))))))
        clear hq hzc hBz hpow hz0 hc hzB HBd hpos hki
        go_wp2_with fail
        refine P.mono ?_
        rintro _ w5 ⟨r, rfl, -, bl⟩
        go_wp2
        go_roundw
        case rel =>
          obtain ⟨hq, hzc, hBz, hpow, hz0, hp, hk⟩ := HQ.out
          exact ⟨i, rfl, by omega, ⟨_, rfl, by omega, hzc, by omega⟩, hq.go bl⟩
        case measure =>
          simp only [intOf]
          omega
      · have hcn : ¬ (alongP n es fl arcs (z + 2 ^ i)).2 = 0 := fun h => hzc (hc.1 h)
        have HQ := Lib.hid (And.intro hq (And.intro hzc (And.intro hBz (And.intro hpow (And.intro hz0 (And.intro hp (And.intro hk hzB)))))))
        generalize (alongP n es fl arcs (z + 2 ^ i)).2 = c at *
        generalize (alongP n es fl arcs (z + 2 ^ i)).1 = l at *
        have hcb : (c == 0) = false := by simpa using hcn
        have HN := Lib.hid hcn
        clear hq hzc hBz hpow hz0 hc hzB HBd hcn hpos hki
        go_wp2_with fail
        refine P.mono ?_
        rintro _ w5 ⟨r, rfl, -, bl⟩
        go_wp2
        go_roundw
        case rel =>
          obtain ⟨hq, hzc, hBz, hpow, hz0, hp, hk, hzB⟩ := HQ.out
          exact ⟨i, rfl, by omega, ⟨z, rfl, hz0, hzB, by omega⟩, hq.go bl⟩
        case measure =>
          simp only [intOf]
          omega
end Go.Proofs.Ytohcoknnalgjnaa
