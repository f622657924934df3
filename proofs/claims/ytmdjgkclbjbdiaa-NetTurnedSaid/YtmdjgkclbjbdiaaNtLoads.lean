/- The two functions that go through a net's edges: each edge with its number, in order; no condition. -/
import Derived.Test.YtmdjgkclbjbdiaaNtRel
import Derived.Test.YtmdjgkclbjbdiaaNtRound
namespace Go.Proofs.Ytmdjgkclbjbdiaa
open Go.RowKit
attribute [local go_sem] Oper.semAt_some

theorem full_any (n : Int) (va : Option Addr) (vn vc : Nat) (w : World) : Calls Try.prog 26 #[netV n (.slice va vn vc)] w fun e w' => e = .returned (.func (.func 32) #[] #[.pointer (some ⟨w.heap.size, 0, none⟩)]) ∧ w' = w.alloc (.cells #[.int .i64 n, .slice va vn vc] 24) := by
  go_enter Try.func26, Try.ntmps26
  go_wp2
  go_ret
  exact ⟨rfl, rfl⟩
theorem flowing_any (n : Int) (va : Option Addr) (vn vc : Nat) (xa : Option Addr) (xn xc : Nat) (w : World) : Calls Try.prog 31 #[netV n (.slice va vn vc), .slice xa xn xc] w fun e w' => e = .returned (.func (.func 35) #[] #[.pointer (some ⟨w.heap.size, 0, none⟩), .pointer (some ⟨w.heap.size + 1, 0, none⟩)]) ∧
    w' = (w.alloc (.cells #[.int .i64 n, .slice va vn vc] 24)).alloc (.cells #[.slice xa xn xc] 25) := by
  go_enter Try.func31, Try.ntmps31
  go_wp2
  go_ret
  exact ⟨rfl, rfl⟩

/-- A function's value that hands each of these to a yield, in order; what it reads lies outside of S. -/
def Loads (gf : Nat) (lb : Array Value) (ls : Load) (w1 : World) (S : Nat → Prop) : Prop :=
  ∀ (n l : Nat) (J : Nat → World → Prop) (Jx : World → Prop), 1 ≤ n → (∀ k W, J k W → Only S w1 W) → (∀ k W W', J k W → Below W.heap.size W W' → J k W') →
    (∀ k p W, J k W → ls[k]? = some p → YieldAt Fence.wide (n - 1) Try.prog l #[edV p.1, .int .i64 p.2] W fun e W' => (e = .returned (.bool true) ∧ J (k + 1) W') ∨ (e = .returned (.bool false) ∧ Jx W')) →
    ∀ W, J 0 W → CallsIn Fence.wide n Try.prog gf (#[.func (.yield l) #[] #[]] ++ lb) W fun e W' => (∃ v, e = .returned v) ∧ (J ls.length W' ∨ Jx W')

theorem full_get {es : List Ed} {k : Nat} {e : Ed} (h : es[k]? = some e) : (full es)[k]? = some (e, e.cap) := by simp [full, h]
theorem full_length (es : List Ed) : (full es).length = es.length := by simp [full]

set_option maxRecDepth 100000 in
set_option maxHeartbeats 2000000 in
theorem full_loads {w1 : World} {S : Nat → Prop} {Bn : Nat} {N : Int} {v : Value} {es : List Ed} (hc : Cel w1 Bn [.int .i64 N, v] 24) (hB : ¬ S Bn) (he : Rd kdEd w1 S v es) :
    Loads 32 #[.pointer (some ⟨Bn, 0, none⟩)] (full es) w1 S := by
  intro n l J Jx hn hJ hA hY W h0
  have hlm := he.len
  obtain ⟨va, vc, rfl, -, -⟩ := he.shape
  obtain ⟨L, hL⟩ : ∃ L, L = es.length := ⟨_, rfl⟩
  have c1 : W.cell? ⟨Bn, 1, none⟩ = some (.slice va es.length vc) := by rw [(hc.only (hJ 0 W h0) hB).cell]; rfl
  have HH := Lib.hid (And.intro hn (And.intro (fun k W h => he.only (hJ k W h)) (And.intro hA (And.intro hY h0))))
  rw [full_length]
  rw [← hL] at c1 hlm ⊢
  have HL := Lib.hid hL
  clear hn hJ hA hY h0 he hL
  refine callsIn_of_wp Try.func32 rfl trivial ?_
  simp only [Try.ntmps32, List.size_toArray, List.length_cons, List.length_nil, Nat.reduceAdd, Nat.reduceSub, Array.replicate_succ, Array.replicate_zero, List.push_toArray, List.append_toArray, List.nil_append, List.cons_append]
  gi_wp2
  gi_loopw [8] (fun j wr => ∃ k : Nat, j = .int .i64 (k : Int) ∧ k ≤ L ∧ J k wr) (fun j _ => L - (intOf j).toNat)
  case atStart => exact ⟨0, rfl, Nat.zero_le _, HH.out.2.2.2.2⟩
  case round =>
    obtain ⟨k, rfl, hk, hJk⟩ := hrel
    obtain ⟨hn, hE, hA, hY, -⟩ := HH.out
    have hL := HL.out
    rcases Nat.lt_or_ge k L with hlt | hge
    · obtain ⟨e, he⟩ : ∃ e, es[k]? = some e := ⟨_, List.getElem?_eq_getElem (by omega)⟩
      obtain ⟨g, o, cap, e0, hg, f0, f1, f2, f3⟩ := es_at (hE k wr hJk) he
      simp only [Value.slice.injEq] at e0
      obtain ⟨rfl, -, rfl⟩ := e0
      have hJ2 : J k (wr.alloc (.cells #[.int .i64 e.fr, .int .i64 e.to, .int .i64 e.cap, .int .i64 e.cost] 39)) := hA _ _ _ hJk ((Below.refl _ _).alloc (Nat.le_refl _) _)
      obtain ⟨fn, tmps, assign, body, hy, hR⟩ := hY k (e, e.cap) _ hJ2 (full_get he)
      have hki : (k : Int) < (L : Int) := by omega
      have hk1 : (k : Int) ≤ 9223372036854775806 := by omega
      have hk0 : (0 : Int) ≤ (k : Int) := by omega
      have HK := Lib.hid (And.intro hlt (And.intro hk hL))
      clear hE hA hY hJk hJ2 hlt hk hL he hc hlm
      gi_wp2
      refine hR.mono ?_
      rintro e W3 (⟨rfl, hJ3⟩ | ⟨rfl, hJx3⟩)
      · gi_wp2
        go_roundw
        case rel => exact ⟨k + 1, by go_num, HK.out.1, hJ3⟩
        case measure =>
          have := HK.out.1
          simp only [intOf]
          omega
      · gi_wp2
        refine bodyPost_ret (results_none rfl _ _ _) rfl ?_
        exact ⟨⟨_, rfl⟩, .inr hJx3⟩
    · obtain rfl : k = L := by omega
      have hki : ¬ (k : Int) < (k : Int) := by omega
      have HK := Lib.hid (And.intro hJk hL)
      clear hE hA hY hJk hk hge hL hc
      gi_wp2
      go_end0
      exact ⟨⟨_, rfl⟩, .inl HK.out.1⟩

theorem zip_get {es : List Ed} {l : List Int} {k : Nat} {e : Ed} {x : Int} (h : es[k]? = some e) (hx : l[k]? = some x) : (es.zip l)[k]? = some (e, x) := by simp [List.getElem?_zip_eq_some, h, hx]

set_option maxRecDepth 100000 in
set_option maxHeartbeats 2000000 in
theorem flowing_loads {w1 : World} {S : Nat → Prop} {Bn Bf : Nat} {N : Int} {v x : Value} {es : List Ed} {fl : List Int} (hc : Cel w1 Bn [.int .i64 N, v] 24) (hB : ¬ S Bn) (he : Rd kdEd w1 S v es)
    (hc2 : Cel w1 Bf [x] 25) (hB2 : ¬ S Bf) (hf : Rd kdI w1 S x fl) (hlen : fl.length = es.length) :
    Loads 35 #[.pointer (some ⟨Bn, 0, none⟩), .pointer (some ⟨Bf, 0, none⟩)] (es.zip fl) w1 S := by
  intro n l J Jx hn hJ hA hY W h0
  have hlm := he.len
  obtain ⟨va, vc, rfl, -, -⟩ := he.shape
  obtain ⟨xa, xc, rfl, -, -⟩ := hf.shape
  obtain ⟨L, hL⟩ : ∃ L, L = es.length := ⟨_, rfl⟩
  have c1 : W.cell? ⟨Bn, 1, none⟩ = some (.slice va es.length vc) := by rw [(hc.only (hJ 0 W h0) hB).cell]; rfl
  have HH := Lib.hid (And.intro hn (And.intro (fun k W h => he.only (hJ k W h)) (And.intro hA (And.intro hY (And.intro h0 (And.intro (fun k W h => hf.only (hJ k W h)) (fun k W h => hc2.only (hJ k W h) hB2)))))))
  rw [List.length_zip, hlen, Nat.min_self]
  rw [← hL] at c1 hlm ⊢
  have HL := Lib.hid (And.intro hL hlen)
  clear hn hJ hA hY h0 he hc2 hf hL hlen
  refine callsIn_of_wp Try.func35 rfl trivial ?_
  simp only [Try.ntmps35, List.size_toArray, List.length_cons, List.length_nil, Nat.reduceAdd, Nat.reduceSub, Array.replicate_succ, Array.replicate_zero, List.push_toArray, List.append_toArray, List.nil_append, List.cons_append]
  gi_wp2
  gi_loopw [9] (fun j wr => ∃ k : Nat, j = .int .i64 (k : Int) ∧ k ≤ L ∧ J k wr) (fun j _ => L - (intOf j).toNat)
  case atStart => exact ⟨0, rfl, Nat.zero_le _, HH.out.2.2.2.2.1⟩
  case round =>
    obtain ⟨k, rfl, hk, hJk⟩ := hrel
    obtain ⟨hn, hE, hA, hY, -, hF, hC2⟩ := HH.out
    obtain ⟨hL, hlen⟩ := HL.out
    rcases Nat.lt_or_ge k L with hlt | hge
    · obtain ⟨e, he⟩ : ∃ e, es[k]? = some e := ⟨_, List.getElem?_eq_getElem (by omega)⟩
      obtain ⟨y, hy⟩ : ∃ y, fl[k]? = some y := ⟨_, List.getElem?_eq_getElem (by omega)⟩
      obtain ⟨g, o, cap, e0, hg, f0, f1, f2, f3⟩ := es_at (hE k wr hJk) he
      obtain ⟨g2, o2, cap2, e2, hg2, i0⟩ := fs_at (hF k wr hJk) hy
      simp only [Value.slice.injEq] at e0 e2
      obtain ⟨rfl, -, rfl⟩ := e0
      obtain ⟨rfl, -, rfl⟩ := e2
      have hA2 : Below wr.heap.size wr (wr.alloc (.cells #[.int .i64 e.fr, .int .i64 e.to, .int .i64 e.cap, .int .i64 e.cost] 39)) := (Below.refl _ _).alloc (Nat.le_refl _) _
      have hJ2 : J k (wr.alloc (.cells #[.int .i64 e.fr, .int .i64 e.to, .int .i64 e.cap, .int .i64 e.cost] 39)).drew := hA _ _ _ hJk hA2.drew
      obtain ⟨fn, tmps, assign, body, hy, hR⟩ := hY k (e, y) _ hJ2 (zip_get he hy)
      have hki : (k : Int) < (L : Int) := by omega
      have hk1 : (k : Int) ≤ 9223372036854775806 := by omega
      have hk0 : (0 : Int) ≤ (k : Int) := by omega
      have b2 : (wr.alloc (.cells #[.int .i64 e.fr, .int .i64 e.to, .int .i64 e.cap, .int .i64 e.cost] 39)).cell? ⟨Bf, 0, none⟩ = some (.slice (some ⟨g2, o2, none⟩) L xc) := by
        rw [((hC2 k wr hJk).below hA2 (hC2 k wr hJk).lt).cell, hL, ← hlen]
        rfl
      have i1 : (wr.alloc (.cells #[.int .i64 e.fr, .int .i64 e.to, .int .i64 e.cap, .int .i64 e.cost] 39)).cell? ⟨g2, o2 + k, none⟩ = some (.int .i64 y) := (World.cell?_of_block (hA2.block g2 hg2)).trans i0
      have nc := Cel.new wr #[.int .i64 e.fr, .int .i64 e.to, .int .i64 e.cap, .int .i64 e.cost] 39
      have hle : (loadVar 39 ⟨wr.heap.size, 0, none⟩).run Try.prog (wr.alloc (.cells #[.int .i64 e.fr, .int .i64 e.to, .int .i64 e.cap, .int .i64 e.cost] 39)).drew = .ok (edV e) (wr.alloc (.cells #[.int .i64 e.fr, .int .i64 e.to, .int .i64 e.cap, .int .i64 e.cost] 39)).drew := by
        have k0 := nc.cell 0
        have k1 := nc.cell 1
        have k2 := nc.cell 2
        have k3 := nc.cell 3
        go_simp
      have HK := Lib.hid (And.intro hlt (And.intro hk hL))
      clear hE hA hY hJk hJ2 hlt hk hL he hc hlm hF hC2 hlen hA2 nc hg hg2 i0
      gi_wp2
      refine region_x 6 (fun W => W = (wr.alloc (.cells #[.int .i64 e.fr, .int .i64 e.to, .int .i64 e.cap, .int .i64 e.cost] 39)).drew) (by kernel_rfl) ?hlo rfl (fun hS => ?_)
      case hlo =>
        rintro ⟨a, w, hh⟩
        obtain ⟨⟨v, hv⟩, _⟩ := hh
        cases hv
      refine take_x (i := 0) (some 14) (.func (.yield l) #[] #[]) rfl rfl (by kernel_rfl) (by kernel_rfl) (by kernel_rfl) rfl (by kernel_rfl) (by decide) (fun _ _ _ h => h) (by rfl) (fun W hW => ?_) hS ?_
      · subst hW
        go_simp
      simp only [Act.put, List.setIfInBounds_toArray, List.set_cons_zero, List.set_cons_succ]
      refine take_x (i := 1) (some 15) (edV e) rfl rfl (by kernel_rfl) (by kernel_rfl) (by kernel_rfl) rfl (by kernel_rfl) (by decide) (fun _ _ _ h => h) (by rfl) (fun W hW => ?_) hS ?_
      · subst hW
        go_simp
      simp only [Act.put, List.setIfInBounds_toArray, List.set_cons_zero, List.set_cons_succ]
      refine two_x 2 3 (by kernel_rfl) (by decide) (by decide) rfl rfl (fun K hK => ?_) (fun K hK => ?_)
      · go_simp
        refine hK.out _ _ (fun _ => rfl) ?_
        clear hK K
        refine next_x 3 (by kernel_rfl) (by decide) rfl (fun K hK => ?_)
        go_simp
        refine hK.out _ _ (fun _ => rfl) ?_
        clear hK K
        refine next_x 4 (by kernel_rfl) (by decide) rfl (fun K hK => ?_)
        go_simp
        refine hK.out _ _ (fun _ => rfl) ?_
        clear hK K
        refine next_x 5 (by kernel_rfl) (by decide) rfl (fun K hK => ?_)
        go_simp
        refine hK.out _ _ (fun _ => rfl) ?_
        clear hK K
        refine next_x_t (by kernel_rfl) rfl rfl ?_
        refine ⟨fun _ _ => trivial, ?_⟩
        go_simp
        refine hR.mono ?_
        rintro e W3 (⟨rfl, hJ3⟩ | ⟨rfl, hJx3⟩)
        · go_simp
          refine next_x 7 (by kernel_rfl) (by decide) rfl (fun K hK => ?_)
          go_simp
          refine hK.out _ _ (fun h => absurd h (by decide)) ?_
          clear hK K
          refine done_x (by kernel_rfl) ?_ _
          gi_wp2
          go_roundw
          case rel => exact ⟨k + 1, by go_num, HK.out.1, hJ3⟩
          case measure =>
            have := HK.out.1
            simp only [intOf]
            omega
        · go_simp
          refine next_x 7 (by kernel_rfl) (by decide) rfl (fun K hK => ?_)
          go_simp
          refine hK.out _ _ (fun h => absurd h (by decide)) ?_
          clear hK K
          refine done_x (by kernel_rfl) ?_ _
          gi_wp2
          refine bodyPost_ret (results_none rfl _ _ _) rfl ?_
          exact ⟨⟨_, rfl⟩, .inr hJx3⟩
      · go_simp
        refine hK.out _ _ (fun _ => rfl) ?_
        clear hK K
        refine next_x 2 (by kernel_rfl) (by decide) rfl (fun K hK => ?_)
        go_simp
        refine hK.out _ _ (fun _ => rfl) ?_
        clear hK K
        refine next_x 4 (by kernel_rfl) (by decide) rfl (fun K hK => ?_)
        go_simp
        refine hK.out _ _ (fun _ => rfl) ?_
        clear hK K
        refine next_x 5 (by kernel_rfl) (by decide) rfl (fun K hK => ?_)
        go_simp
        refine hK.out _ _ (fun _ => rfl) ?_
        clear hK K
        refine next_x_t (by kernel_rfl) rfl rfl ?_
        refine ⟨fun _ _ => trivial, ?_⟩
        go_simp
        refine hR.mono ?_
        rintro e W3 (⟨rfl, hJ3⟩ | ⟨rfl, hJx3⟩)
        · go_simp
          refine next_x 7 (by kernel_rfl) (by decide) rfl (fun K hK => ?_)
          go_simp
          refine hK.out _ _ (fun h => absurd h (by decide)) ?_
          clear hK K
          refine done_x (by kernel_rfl) ?_ _
          gi_wp2
          go_roundw
          case rel => exact ⟨k + 1, by go_num, HK.out.1, hJ3⟩
          case measure =>
            have := HK.out.1
            simp only [intOf]
            omega
        · go_simp
          refine next_x 7 (by kernel_rfl) (by decide) rfl (fun K hK => ?_)
          go_simp
          refine hK.out _ _ (fun h => absurd h (by decide)) ?_
          clear hK K
          refine done_x (by kernel_rfl) ?_ _
          gi_wp2
          refine bodyPost_ret (results_none rfl _ _ _) rfl ?_
          exact ⟨⟨_, rfl⟩, .inr hJx3⟩
    · obtain rfl : k = L := by omega
      have hki : ¬ (k : Int) < (k : Int) := by omega
      have HK := Lib.hid (And.intro hJk hL)
      clear hE hA hY hJk hk hge hL hc
      gi_wp2
      go_end0
      exact ⟨⟨_, rfl⟩, .inl HK.out.1⟩
end Go.Proofs.Ytmdjgkclbjbdiaa
