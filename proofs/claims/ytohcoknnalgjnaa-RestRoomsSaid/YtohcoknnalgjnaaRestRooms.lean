/- The statement RestRooms: both arcs of an edge have room for its Cap together; pushed full an arc has none, and the other one all; no condition. -/
import Derived.Test.YtohcoknnalgjnaaRsWorks
import Derived.Test.YtohcoknnalgjnaaRsRoomsP
namespace Go.Proofs.Ytohcoknnalgjnaa
open Go.RowKit

theorem wrap_two {q k : Nat} (hq : q < 200) (hk : k < 2) : wrap64 (2 * (q : Int) + (k : Int)) = 2 * (q : Int) + (k : Int) ∧ wrap64 (2 * (q : Int) + 1 - (k : Int)) = 2 * (q : Int) + 1 - (k : Int) := by
  unfold wrap64
  omega
theorem fs_cell {w : World} {g cap n : Nat} {l : List Int} {i : Nat} {x : Int} (h : Fs w (.slice (some ⟨g, 0, none⟩) n cap) l) (hx : l[i]? = some x) : w.cell? ⟨g, i, none⟩ = some (.int .i64 x) := by
  obtain ⟨g', o', c', e, -, f⟩ := fs_at h hx
  simp only [Value.slice.injEq, Option.some.injEq, Addr.mk.injEq] at e
  obtain ⟨⟨rfl, rfl, -⟩, -, -⟩ := e
  rwa [Nat.zero_add] at f

set_option maxRecDepth 100000 in
set_option maxHeartbeats 16000000 in
theorem restRooms_any (n : Int) (u : Nat) (w : World) {v x : Value} {es : List Ed} {fl : List Int} (he : Es w v es) (hf : Fs w x fl) (hu : u < 256) : Calls Try.prog 8 #[netV n v, x, .int .u8 (u : Int)] w fun e w' => e = .returned (.bool true) ∧ Below w.heap.size w w' := by
  obtain ⟨va, vc, rfl, -, -⟩ := he.shape
  obtain ⟨xa, xc, rfl, -, -⟩ := hf.shape
  have hK := NQ.box n he (fls := [(.slice xa fl.length xc, fl)]) (fun p hp => by rw [List.mem_singleton.1 hp]; exact hf)
  clear he hf
  obtain ⟨n0, n1⟩ := hK.net.net
  have P := vast_any n es fl _ hK.es (hK.fl (.slice xa fl.length xc, fl) (by simp))
  have HK := Lib.hid hK
  clear hK
  go_enter Try.func8, Try.ntmps8
  go_wp2_with fail
  generalize w.alloc (.cells #[.int .i64 n, .slice va es.length vc] 24) = w1 at *
  refine P.mono ?_
  rintro e w2 ⟨rfl, bl⟩
  have h2 := HK.out.go bl
  clear P HK bl n0 n1
  by_cases hv : 2000 < es.length ∨ 2000 < fl.length
  case pos =>
    rw [decide_eq_true hv]
    have HV := Lib.hid (And.intro hv h2)
    clear hv h2
    go_wp2_with fail
    refine (works12_any w2).mono ?_
    rintro e w3 ⟨rfl, bl⟩
    go_wp2
    go_ret
    exact ⟨rfl, (HV.out.2.go bl).under⟩
  rw [decide_eq_false hv]
  clear hv
  have P := within_any n es fl w2 h2.es (h2.fl (.slice xa fl.length xc, fl) (by simp))
  obtain ⟨n0, n1⟩ := h2.net.net
  have HK := Lib.hid h2
  clear h2
  go_wp2_with fail
  refine P.mono ?_
  rintro e w3 ⟨rfl, bl⟩
  have h3 := HK.out.go bl
  clear P HK bl n0 n1
  by_cases hw : WithinP n es fl
  case neg =>
    rw [decide_eq_false hw]
    have HV := Lib.hid h3
    clear hw h3
    go_wp2_with fail
    refine (works12_any w3).mono ?_
    rintro _ w4 ⟨rfl, bl⟩
    go_wp2
    go_ret
    exact ⟨rfl, (HV.out.go bl).under⟩
  rw [decide_eq_true hw]
  have hL : es.length ≤ 200 := hw.1.2.2.1
  have hLf : fl.length = es.length := hw.2.1
  obtain ⟨L, hLL⟩ : ∃ L, L = es.length := ⟨_, rfl⟩
  rw [hLf, ← hLL] at h3 ⊢
  rw [← hLL] at hL
  by_cases hz : L = 0
  case pos =>
    subst hz
    obtain ⟨n0, n1⟩ := h3.net.net
    have HV := Lib.hid h3
    clear hw h3 hL hLf hLL
    go_wp2_with fail
    refine (works12_any w3).mono ?_
    rintro _ w4 ⟨rfl, bl⟩
    go_wp2
    go_ret
    exact ⟨rfl, (HV.out.go bl).under⟩
  obtain ⟨q, hq⟩ : ∃ q, q = u % L := ⟨_, rfl⟩
  have hqL : q < L := by rw [hq]; exact Nat.mod_lt _ (by omega)
  obtain ⟨e, hei⟩ : ∃ e, es[q]? = some e := ⟨_, List.getElem?_eq_getElem (by omega)⟩
  obtain ⟨g, o, cp, e0, hg, f0, f1, f2, f3⟩ := es_at h3.es hei
  rw [← hLL] at e0
  simp only [Value.slice.injEq] at e0
  obtain ⟨rfl, -, rfl⟩ := e0
  have hLn : ¬ L = 0 := hz
  have hLz : ((L : Int) == 0) = false := by simp; omega
  have hrem : wrap64 ((u : Int).tmod (L : Int)) = (q : Int) := by
    rw [Int.tmod_eq_emod_of_nonneg (by omega), show (u : Int) % (L : Int) = ((u % L : Nat) : Int) from rfl, ← hq]
    unfold wrap64
    omega
  have hrem2 : (u : Int).tmod (L : Int) = (q : Int) := by
    rw [Int.tmod_eq_emod_of_nonneg (by omega), show (u : Int) % (L : Int) = ((u % L : Nat) : Int) from rfl, ← hq]
  have hq0 : (0 : Int) ≤ (q : Int) := by omega
  have hql : (q : Int) < (L : Int) := by omega
  have hu1 : (u : Int) ≤ 255 := by omega
  have hu0 : (0 : Int) ≤ (u : Int) := by omega
  have hwu : wrap64 (u : Int) = (u : Int) := by unfold wrap64; omega
  have hw2q : wrap64 (2 * (q : Int)) = 2 * (q : Int) := by unfold wrap64; omega
  have hw3q : wrap64 (2 * (q : Int) + 1) = 2 * (q : Int) + 1 := by unfold wrap64; omega
  have hA := (Below.refl w3.heap.size w3).alloc (Nat.le_refl _) (.cells #[.int .i64 e.fr, .int .i64 e.to, .int .i64 e.cap, .int .i64 e.cost] 44)
  have ce0 := Cel.new w3 #[.int .i64 e.fr, .int .i64 e.to, .int .i64 e.cap, .int .i64 e.cost] 44
  have h4 := (h3.go hA).add (fs_of_cel (l := [e.fr, e.to, e.cap, e.cost]) (n := 4) ce0 (by simp) rfl)
  obtain ⟨n0, n1⟩ := h3.net.net
  obtain ⟨y0, y1⟩ := h4.net.net
  have P1 := ends_any n es (2 * (q : Int)) _ h4.es
  rw [(ends_two hw.1 hei).1] at P1
  have HK := Lib.hid h4
  have HG := Lib.hid (And.intro hw (And.intro hei (And.intro hL (And.intro hLf (And.intro hLL hqL)))))
  clear h3 h4 hw hei hL hLf hLL hqL hz hq hA ce0
  go_wp2_with fail
  generalize w3.alloc (.cells #[.int .i64 e.fr, .int .i64 e.to, .int .i64 e.cap, .int .i64 e.cost] 44) = w4 at *
  generalize w3.heap.size = ce at *
  have HX := Lib.hid (show ∀ W, NQ w w.heap.size n (.slice (some ⟨g, o, none⟩) L vc) es [(.slice (some ⟨ce, 0, none⟩) 4 4, [e.fr, e.to, e.cap, e.cost]), (.slice xa L xc, fl)] W → (W.cell? ⟨w.heap.size, 0, none⟩ = some (.int .i64 n) ∧ W.cell? ⟨w.heap.size, 1, none⟩ = some (.slice (some ⟨g, o, none⟩) L vc)) ∧ W.cell? ⟨ce, 0, none⟩ = some (.int .i64 e.fr) ∧ W.cell? ⟨ce, 1, none⟩ = some (.int .i64 e.to) ∧ W.cell? ⟨ce, 2, none⟩ = some (.int .i64 e.cap) ∧ W.cell? ⟨ce, 3, none⟩ = some (.int .i64 e.cost) from fun W h => by
    have k := h.fl (.slice (some ⟨ce, 0, none⟩) 4 4, [e.fr, e.to, e.cap, e.cost]) (by simp)
    exact ⟨h.net.net, fs_cell (i := 0) k rfl, fs_cell (i := 1) k rfl, fs_cell (i := 2) k rfl, fs_cell (i := 3) k rfl⟩)
  refine P1.mono ?_
  rintro _ w5 ⟨rfl, bl⟩
  have h5 := HK.out.go bl
  clear P1 HK bl n0 n1 y0 y1
  obtain ⟨hw, hei, hL, hLf, hLL, hqL⟩ := HG.out
  have P1 := ends_any n es (2 * (q : Int) + 1) _ h5.es
  rw [(ends_two hw.1 hei).2] at P1
  obtain ⟨n0, n1⟩ := h5.net.net
  have HK := Lib.hid h5
  have hpe := hw.1.2.2.2.1 e (List.mem_of_getElem? hei)
  have hwc : wrap64 (-e.cost) = -e.cost := by unfold Perm at hpe; unfold wrap64; omega
  clear hw hei hL hLf hLL hqL h5 hpe
  go_wp2_with fail
  refine P1.mono ?_
  rintro _ w6 ⟨rfl, bl⟩
  have h6 := HK.out.go bl
  obtain ⟨⟨n0, n1⟩, y0, y1, y2, y3⟩ := HX.out _ h6
  have HK := Lib.hid h6
  clear P1 bl h6
  go_wp2
  clear n0 n1 y0 y1 y2 y3 hwc hrem hrem2 hwu
  go_loopw [15] (fun j wr => ∃ k : Nat, j = .int .i64 (k : Int) ∧ k ≤ 2 ∧ NQ w w.heap.size n (.slice (some ⟨g, o, none⟩) L vc) es [(.slice (some ⟨ce, 0, none⟩) 4 4, [e.fr, e.to, e.cap, e.cost]), (.slice xa L xc, fl)] wr) (fun j _ => 2 - (intOf j).toNat)
  case atStart => exact ⟨0, rfl, by omega, HK.out⟩
  case round =>
    obtain ⟨k, rfl, hk, hq⟩ := hrel
    clear HK
    rcases Nat.lt_or_ge k 2 with hlt | hge
    · obtain ⟨hw, hei, hL, hLf, hLL, hqL⟩ := HG.out
      have hkt : (k : Int) < 2 := by omega
      obtain ⟨A, hA⟩ : ∃ A, A = 2 * (q : Int) + (k : Int) := ⟨_, rfl⟩
      have hh : HasP es A := by rw [hA]; exact two_has (by omega) hlt
      have hoA : othA A = 2 * (q : Int) + 1 - (k : Int) := by rw [hA]; exact two_oth hlt
      have hed : edI es A = e := by rw [hA]; exact two_ed hei hlt
      obtain ⟨hwA0, hwO0⟩ := wrap_two (q := q) (by omega) hlt
      have hwA : wrap64 (2 * (q : Int) + (k : Int)) = A := hwA0.trans hA.symm
      have hwO : wrap64 (2 * (q : Int) + 1 - (k : Int)) = othA A := hwO0.trans hoA.symm
      have hro := hh.room hw
      have hrr := oth_room (es := es) (fl := fl) hh.1
      rw [hed] at hrr
      have hrt := hh.oth.room hw
      have hwp := hw.push hh hro.1 (Int.le_refl _)
      obtain ⟨hp1, hp2⟩ := push_room (b := roomL es fl A) hh hw.2.1
      have hpb := push_back (b := roomL es fl A) hh hw.2.1
      have PT := fun W (h : NQ w w.heap.size n (.slice (some ⟨g, o, none⟩) L vc) es [(.slice (some ⟨ce, 0, none⟩) 4 4, [e.fr, e.to, e.cap, e.cost]), (.slice xa L xc, fl)] W) => room_any n es fl (othA A) W h.es (h.fl (.slice xa L xc, fl) (by simp))
      rw [roomP_pos hw hh.oth] at PT
      have PU := fun W (h : NQ w w.heap.size n (.slice (some ⟨g, o, none⟩) L vc) es [(.slice (some ⟨ce, 0, none⟩) 4 4, [e.fr, e.to, e.cap, e.cost]), (.slice xa L xc, fl)] W) {v : Value} (k : Fs W v fl) => push_any n es fl A (roomL es fl A) W h.es k
      rw [push_eq hw hh, if_pos hro.1, if_pos (Int.le_refl _)] at PU
      have PV := fun W (h : NQ w w.heap.size n (.slice (some ⟨g, o, none⟩) L vc) es [(.slice (some ⟨ce, 0, none⟩) 4 4, [e.fr, e.to, e.cap, e.cost]), (.slice xa L xc, fl)] W) {v : Value} (k : Fs W v fl) => push_any n es fl A (roomL es fl A + 1) W h.es k
      rw [push_eq hw hh, if_pos (by omega), if_neg (by omega)] at PV
      have PR1 := fun W (h : NQ w w.heap.size n (.slice (some ⟨g, o, none⟩) L vc) es [(.slice (some ⟨ce, 0, none⟩) 4 4, [e.fr, e.to, e.cap, e.cost]), (.slice xa L xc, fl)] W) {v : Value} (k : Fs W v (pushL fl A (roomL es fl A))) => room_any n es (pushL fl A (roomL es fl A)) A W h.es k
      rw [roomP_pos hwp hh, hp1, Int.sub_self] at PR1
      have PR2 := fun W (h : NQ w w.heap.size n (.slice (some ⟨g, o, none⟩) L vc) es [(.slice (some ⟨ce, 0, none⟩) 4 4, [e.fr, e.to, e.cap, e.cost]), (.slice xa L xc, fl)] W) {v : Value} (k : Fs W v (pushL fl A (roomL es fl A))) => room_any n es (pushL fl A (roomL es fl A)) (othA A) W h.es k
      rw [roomP_pos hwp hh.oth, hp2, Int.add_comm, hrr] at PR2
      have PW := fun W (h : NQ w w.heap.size n (.slice (some ⟨g, o, none⟩) L vc) es [(.slice (some ⟨ce, 0, none⟩) 4 4, [e.fr, e.to, e.cap, e.cost]), (.slice xa L xc, fl)] W) {v : Value} (k : Fs W v (pushL fl A (roomL es fl A))) => push_any n es (pushL fl A (roomL es fl A)) (othA A) (roomL es fl A) W h.es k
      rw [push_eq hwp hh.oth, if_pos hro.1, if_pos (by rw [hp2]; omega), hpb] at PW
      have PB := fun W (h : NQ w w.heap.size n (.slice (some ⟨g, o, none⟩) L vc) es [(.slice (some ⟨ce, 0, none⟩) 4 4, [e.fr, e.to, e.cap, e.cost]), (.slice xa L xc, fl)] W) {y : Value} (k : Fs W y [A]) => bottle_any n es fl [A] W h.es (h.fl (.slice xa L xc, fl) (by simp)) k
      rw [bottle_one hw hh] at PB
      have PC : ∀ W, NQ w w.heap.size n (.slice (some ⟨g, o, none⟩) L vc) es [(.slice (some ⟨ce, 0, none⟩) 4 4, [e.fr, e.to, e.cap, e.cost]), (.slice xa L xc, fl)] W → Calls Try.prog 12 #[.slice xa L xc] W fun e w' => ∃ v, e = .returned v ∧ Fs w' v fl ∧ Below W.heap.size W w' := fun W h => (copied12_any fl W (h.fl (.slice xa L xc, fl) (by simp)) (by omega)).mono fun e w' ⟨g, cap, h1, h2, h3, h4, h5⟩ => ⟨_, h1, h2.fs h3, h5⟩
      have PS := fun W (h : NQ w w.heap.size n (.slice (some ⟨g, o, none⟩) L vc) es [(.slice (some ⟨ce, 0, none⟩) 4 4, [e.fr, e.to, e.cap, e.cost]), (.slice xa L xc, fl)] W) {v : Value} (k : Fs W v fl) => nsame_any fl fl W k (h.fl (.slice xa L xc, fl) (by simp))
      rw [decide_eq_true rfl] at PS
      have HP := Lib.hid (And.intro PT (And.intro PC (And.intro @PU (And.intro @PV (And.intro @PR1 (And.intro @PR2 (And.intro @PW (And.intro @PB @PS))))))))
      clear PT PC PU PV PR1 PR2 PW PB PS hp1 hp2 hpb hwp
      have P1 := room_any n es fl A wr hq.es (hq.fl (.slice xa L xc, fl) (by simp))
      rw [roomP_pos hw hh] at P1
      generalize roomL es fl A = RO at *
      generalize roomL es fl (othA A) = RT at *
      generalize pushL fl A RO = PF at *
      have hkR : IntKind.i64.wrap (RO + RT) = e.cap := by rw [hrr]; exact IntWalk.i64_in _ (by omega)
      have hk1 : IntKind.i64.wrap (RO + 1) = RO + 1 := IntWalk.i64_in _ (by omega)
      have hnro : decide (RO < 0) = false := decide_eq_false (by omega)
      obtain ⟨n0, n1⟩ := hq.net.net
      have HQ := Lib.hid (And.intro hq hlt)
      clear hq hlt hh hed hw hei hL hLf hLL hqL hA hoA hk hwA0 hwO0 hro hrr hrt
      go_wp2_with fail
      refine P1.mono ?_
      rintro _ w7 ⟨rfl, bl⟩
      obtain ⟨hq, hlt⟩ := HQ.out
      have hS0 := (hq.go bl).go ((Below.refl w7.heap.size w7).drew)
      have HQ := Lib.hid hlt
      clear hq hlt bl P1 n0 n1
      go_wp2
      refine region_till 99 (fun W => NQ w w.heap.size n (.slice (some ⟨g, o, none⟩) L vc) es [(.slice (some ⟨ce, 0, none⟩) 4 4, [e.fr, e.to, e.cap, e.cost]), (.slice xa L xc, fl)] W) (by kernel_rfl) hS0 (fun hS => ?_)
      clear hS0
      skip
      refine take_till (i := 0) (some 118) (.int .i64 RO) rfl rfl (by kernel_rfl) (by kernel_rfl) (by kernel_rfl) (by kernel_rfl) (by decide) (fun _ _ _ h => h) (by rfl) (fun W hW => ?_) hS ?_
      · obtain ⟨⟨x0, x1⟩, x2, x3, x4, x5⟩ := HX.out W hW
        clear hW
        go_simp
      simp only [Act.put, List.setIfInBounds_toArray, List.set_cons_zero, List.set_cons_succ]
      refine take_till (i := 1) (some 119) (.bool false) rfl rfl (by kernel_rfl) (by kernel_rfl) (by kernel_rfl) (by kernel_rfl) (by decide) (fun _ _ _ h => h) (by rfl) (fun W hW => ?_) hS ?_
      · obtain ⟨⟨x0, x1⟩, x2, x3, x4, x5⟩ := HX.out W hW
        clear hW
        go_simp
      simp only [Act.put, List.setIfInBounds_toArray, List.set_cons_zero, List.set_cons_succ]
      refine take_till (i := 2) (some 120) (.bool false) rfl rfl (by kernel_rfl) (by kernel_rfl) (by kernel_rfl) (by kernel_rfl) (by decide) (fun _ _ _ h => h) (by rfl) (fun W hW => ?_) hS ?_
      · obtain ⟨⟨x0, x1⟩, x2, x3, x4, x5⟩ := HX.out W hW
        clear hW
        go_simp
      simp only [Act.put, List.setIfInBounds_toArray, List.set_cons_zero, List.set_cons_succ]
      refine take_till (i := 3) (some 121) (.int .i64 RO) rfl rfl (by kernel_rfl) (by kernel_rfl) (by kernel_rfl) (by kernel_rfl) (by decide) (fun _ _ _ h => h) (by rfl) (fun W hW => ?_) hS ?_
      · obtain ⟨⟨x0, x1⟩, x2, x3, x4, x5⟩ := HX.out W hW
        clear hW
        go_simp
      simp only [Act.put, List.setIfInBounds_toArray, List.set_cons_zero, List.set_cons_succ]
      refine take_till (i := 4) (some 122) (.agg #[.int .i64 n, .slice (some ⟨g, o, none⟩) L vc]) rfl rfl (by kernel_rfl) (by kernel_rfl) (by kernel_rfl) (by kernel_rfl) (by decide) (fun _ _ _ h => h) (by rfl) (fun W hW => ?_) hS ?_
      · obtain ⟨⟨x0, x1⟩, x2, x3, x4, x5⟩ := HX.out W hW
        clear hW
        go_simp
      simp only [Act.put, List.setIfInBounds_toArray, List.set_cons_zero, List.set_cons_succ]
      refine take_till (i := 5) (some 123) (.slice xa L xc) rfl rfl (by kernel_rfl) (by kernel_rfl) (by kernel_rfl) (by kernel_rfl) (by decide) (fun _ _ _ h => h) (by rfl) (fun W hW => ?_) hS ?_
      · obtain ⟨⟨x0, x1⟩, x2, x3, x4, x5⟩ := HX.out W hW
        clear hW
        go_simp
      simp only [Act.put, List.setIfInBounds_toArray, List.set_cons_zero, List.set_cons_succ]
      refine take_till (i := 6) (some 124) (.int .i64 (othA A)) rfl rfl (by kernel_rfl) (by kernel_rfl) (by kernel_rfl) (by kernel_rfl) (by decide) (fun _ _ _ h => h) (by rfl) (fun W hW => ?_) hS ?_
      · obtain ⟨⟨x0, x1⟩, x2, x3, x4, x5⟩ := HX.out W hW
        clear hW
        go_simp
      simp only [Act.put, List.setIfInBounds_toArray, List.set_cons_zero, List.set_cons_succ]
      refine take_till (i := 9) (some 127) (.pointer (some ⟨ce, 2, none⟩)) rfl rfl (by kernel_rfl) (by kernel_rfl) (by kernel_rfl) (by kernel_rfl) (by decide) (fun _ _ _ h => h) (by rfl) (fun W hW => ?_) hS ?_
      · obtain ⟨⟨x0, x1⟩, x2, x3, x4, x5⟩ := HX.out W hW
        clear hW
        go_simp
      simp only [Act.put, List.setIfInBounds_toArray, List.set_cons_zero, List.set_cons_succ]
      refine take_till (i := 10) (some 128) (.int .i64 e.cap) rfl rfl (by kernel_rfl) (by kernel_rfl) (by kernel_rfl) (by kernel_rfl) (by decide) (fun _ _ _ h => h) (by rfl) (fun W hW => ?_) hS ?_
      · obtain ⟨⟨x0, x1⟩, x2, x3, x4, x5⟩ := HX.out W hW
        clear hW
        go_simp
      simp only [Act.put, List.setIfInBounds_toArray, List.set_cons_zero, List.set_cons_succ]
      refine next_till 7 (by kernel_rfl) rfl (fun K hK => ?_)
      go_simp
      refine (HP.out.1 _ hS).mono ?_
      rintro _ a1 ⟨rfl, bl⟩
      have hT := hS.go bl
      clear bl hS
      have hS := hT
      clear hT
      go_simp
      refine hK.out _ _ (fun _ => hS) ?_
      clear hK K
      refine take_till (i := 8) (some 126) (.int .i64 e.cap) rfl rfl (by kernel_rfl) (by kernel_rfl) (by kernel_rfl) (by kernel_rfl) (by decide) (fun _ _ _ h => h) (by rfl) (fun W hW => ?_) hS ?_
      · obtain ⟨⟨x0, x1⟩, x2, x3, x4, x5⟩ := HX.out W hW
        clear hW
        go_simp
      simp only [Act.put, List.setIfInBounds_toArray, List.set_cons_zero, List.set_cons_succ]
      refine take_till (i := 11) (some 129) (.bool false) rfl rfl (by kernel_rfl) (by kernel_rfl) (by kernel_rfl) (by kernel_rfl) (by decide) (fun _ _ _ h => h) (by rfl) (fun W hW => ?_) hS ?_
      · obtain ⟨⟨x0, x1⟩, x2, x3, x4, x5⟩ := HX.out W hW
        clear hW
        go_simp
      simp only [Act.put, List.setIfInBounds_toArray, List.set_cons_zero, List.set_cons_succ]
      refine take_till (i := 12) (some 130) (.bool false) rfl rfl (by kernel_rfl) (by kernel_rfl) (by kernel_rfl) (by kernel_rfl) (by decide) (fun _ _ _ h => h) (by rfl) (fun W hW => ?_) hS ?_
      · obtain ⟨⟨x0, x1⟩, x2, x3, x4, x5⟩ := HX.out W hW
        clear hW
        go_simp
      simp only [Act.put, List.setIfInBounds_toArray, List.set_cons_zero, List.set_cons_succ]

      refine done_till (by kernel_rfl) ?_ _
      have hS0 := hS.go ((Below.refl a1.heap.size a1).drew)
      clear hS
      go_wp2
      refine region_till 99 (fun W => NQ w w.heap.size n (.slice (some ⟨g, o, none⟩) L vc) es [(.slice (some ⟨ce, 0, none⟩) 4 4, [e.fr, e.to, e.cap, e.cost]), (.slice xa L xc, fl)] W) (by kernel_rfl) hS0 (fun hS => ?_)
      clear hS0
      refine take_till (i := 0) (some 132) (.agg #[.int .i64 n, .slice (some ⟨g, o, none⟩) L vc]) rfl rfl (by kernel_rfl) (by kernel_rfl) (by kernel_rfl) (by kernel_rfl) (by decide) (fun _ _ _ h => h) (by rfl) (fun W hW => ?_) hS ?_
      · obtain ⟨⟨x0, x1⟩, x2, x3, x4, x5⟩ := HX.out W hW
        clear hW
        go_simp
      simp only [Act.put, List.setIfInBounds_toArray, List.set_cons_zero, List.set_cons_succ]
      refine take_till (i := 1) (some 133) (.slice xa L xc) rfl rfl (by kernel_rfl) (by kernel_rfl) (by kernel_rfl) (by kernel_rfl) (by decide) (fun _ _ _ h => h) (by rfl) (fun W hW => ?_) hS ?_
      · obtain ⟨⟨x0, x1⟩, x2, x3, x4, x5⟩ := HX.out W hW
        clear hW
        go_simp
      simp only [Act.put, List.setIfInBounds_toArray, List.set_cons_zero, List.set_cons_succ]
      refine take_till (i := 3) (some 135) (.int .i64 A) rfl rfl (by kernel_rfl) (by kernel_rfl) (by kernel_rfl) (by kernel_rfl) (by decide) (fun _ _ _ h => h) (by rfl) (fun W hW => ?_) hS ?_
      · obtain ⟨⟨x0, x1⟩, x2, x3, x4, x5⟩ := HX.out W hW
        clear hW
        go_simp
      simp only [Act.put, List.setIfInBounds_toArray, List.set_cons_zero, List.set_cons_succ]
      refine take_till (i := 4) (some 136) (.int .i64 RO) rfl rfl (by kernel_rfl) (by kernel_rfl) (by kernel_rfl) (by kernel_rfl) (by decide) (fun _ _ _ h => h) (by rfl) (fun W hW => ?_) hS ?_
      · obtain ⟨⟨x0, x1⟩, x2, x3, x4, x5⟩ := HX.out W hW
        clear hW
        go_simp
      simp only [Act.put, List.setIfInBounds_toArray, List.set_cons_zero, List.set_cons_succ]
      refine next_till 2 (by kernel_rfl) rfl (fun K hK => ?_)
      go_simp
      refine (HP.out.2.1 _ hS).mono ?_
      rintro _ b1 ⟨cv, rfl, hcv, bl⟩
      have hT := hS.go bl
      clear bl hS
      have hS := hT
      clear hT
      go_simp
      refine hK.out _ _ (fun _ => hS) ?_
      clear hK K
      refine next_till 5 (by kernel_rfl) rfl (fun K hK => ?_)
      go_simp
      refine (HP.out.2.2.1 _ hS hcv).mono ?_
      rintro _ b2 ⟨rf, rfl, hrf, bl, -⟩
      have hT := hS.go bl
      clear bl hS
      have hS := hT
      clear hT
      go_simp
      refine hK.out _ _ (fun _ => hS) ?_
      clear hK K
      refine take_till (i := 6) (some 131) (.tuple #[rf, .int .i64 0]) rfl rfl (by kernel_rfl) (by kernel_rfl) (by kernel_rfl) (by kernel_rfl) (by decide) (fun _ _ _ h => h) (by rfl) (fun W hW => ?_) hS ?_
      · obtain ⟨⟨x0, x1⟩, x2, x3, x4, x5⟩ := HX.out W hW
        clear hW
        go_simp
      simp only [Act.put, List.setIfInBounds_toArray, List.set_cons_zero, List.set_cons_succ]
      refine take_till (i := 7) (some 138) (rf) rfl rfl (by kernel_rfl) (by kernel_rfl) (by kernel_rfl) (by kernel_rfl) (by decide) (fun _ _ _ h => h) (by rfl) (fun W hW => ?_) hS ?_
      · obtain ⟨⟨x0, x1⟩, x2, x3, x4, x5⟩ := HX.out W hW
        clear hW
        go_simp
      simp only [Act.put, List.setIfInBounds_toArray, List.set_cons_zero, List.set_cons_succ]
      refine take_till (i := 8) (some 139) (.int .i64 0) rfl rfl (by kernel_rfl) (by kernel_rfl) (by kernel_rfl) (by kernel_rfl) (by decide) (fun _ _ _ h => h) (by rfl) (fun W hW => ?_) hS ?_
      · obtain ⟨⟨x0, x1⟩, x2, x3, x4, x5⟩ := HX.out W hW
        clear hW
        go_simp
      simp only [Act.put, List.setIfInBounds_toArray, List.set_cons_zero, List.set_cons_succ]
      refine take_till (i := 9) (some 19) (rf) rfl rfl (by kernel_rfl) (by kernel_rfl) (by kernel_rfl) (by kernel_rfl) (by decide) (fun _ _ _ h => h) (by rfl) (fun W hW => ?_) hS ?_
      · obtain ⟨⟨x0, x1⟩, x2, x3, x4, x5⟩ := HX.out W hW
        clear hW
        go_simp
      simp only [Act.put, List.setIfInBounds_toArray, List.set_cons_zero, List.set_cons_succ]
      refine take_till (i := 10) (some 20) (.int .i64 0) rfl rfl (by kernel_rfl) (by kernel_rfl) (by kernel_rfl) (by kernel_rfl) (by decide) (fun _ _ _ h => h) (by rfl) (fun W hW => ?_) hS ?_
      · obtain ⟨⟨x0, x1⟩, x2, x3, x4, x5⟩ := HX.out W hW
        clear hW
        go_simp
      simp only [Act.put, List.setIfInBounds_toArray, List.set_cons_zero, List.set_cons_succ]

      refine done_till (by kernel_rfl) ?_ _
      have hS0 := hS.go ((Below.refl b2.heap.size b2).drew)
      have hrf0 := hrf.below ((Below.refl b2.heap.size b2).drew)
      clear hS hrf hcv
      go_wp2
      refine region_till 99 (fun W => NQ w w.heap.size n (.slice (some ⟨g, o, none⟩) L vc) es [(.slice (some ⟨ce, 0, none⟩) 4 4, [e.fr, e.to, e.cap, e.cost]), (.slice xa L xc, fl)] W) (by kernel_rfl) hS0 (fun hS => ?_)
      have hrf := hrf0
      clear hS0 hrf0
      refine take_till (i := 0) (some 141) (.agg #[.int .i64 n, .slice (some ⟨g, o, none⟩) L vc]) rfl rfl (by kernel_rfl) (by kernel_rfl) (by kernel_rfl) (by kernel_rfl) (by decide) (fun _ _ _ h => h) (by rfl) (fun W hW => ?_) hS ?_
      · obtain ⟨⟨x0, x1⟩, x2, x3, x4, x5⟩ := HX.out W hW
        clear hW
        go_simp
      simp only [Act.put, List.setIfInBounds_toArray, List.set_cons_zero, List.set_cons_succ]
      refine take_till (i := 1) (some 142) (.slice xa L xc) rfl rfl (by kernel_rfl) (by kernel_rfl) (by kernel_rfl) (by kernel_rfl) (by decide) (fun _ _ _ h => h) (by rfl) (fun W hW => ?_) hS ?_
      · obtain ⟨⟨x0, x1⟩, x2, x3, x4, x5⟩ := HX.out W hW
        clear hW
        go_simp
      simp only [Act.put, List.setIfInBounds_toArray, List.set_cons_zero, List.set_cons_succ]
      refine take_till (i := 3) (some 144) (.int .i64 A) rfl rfl (by kernel_rfl) (by kernel_rfl) (by kernel_rfl) (by kernel_rfl) (by decide) (fun _ _ _ h => h) (by rfl) (fun W hW => ?_) hS ?_
      · obtain ⟨⟨x0, x1⟩, x2, x3, x4, x5⟩ := HX.out W hW
        clear hW
        go_simp
      simp only [Act.put, List.setIfInBounds_toArray, List.set_cons_zero, List.set_cons_succ]
      refine take_till (i := 4) (some 145) (.int .i64 RO) rfl rfl (by kernel_rfl) (by kernel_rfl) (by kernel_rfl) (by kernel_rfl) (by decide) (fun _ _ _ h => h) (by rfl) (fun W hW => ?_) hS ?_
      · obtain ⟨⟨x0, x1⟩, x2, x3, x4, x5⟩ := HX.out W hW
        clear hW
        go_simp
      simp only [Act.put, List.setIfInBounds_toArray, List.set_cons_zero, List.set_cons_succ]
      refine take_till (i := 5) (some 146) (.int .i64 (RO + 1)) rfl rfl (by kernel_rfl) (by kernel_rfl) (by kernel_rfl) (by kernel_rfl) (by decide) (fun _ _ _ h => h) (by rfl) (fun W hW => ?_) hS ?_
      · obtain ⟨⟨x0, x1⟩, x2, x3, x4, x5⟩ := HX.out W hW
        clear hW
        go_simp
      simp only [Act.put, List.setIfInBounds_toArray, List.set_cons_zero, List.set_cons_succ]
      refine next_till 2 (by kernel_rfl) rfl (fun K hK => ?_)
      go_simp
      refine (HP.out.2.1 _ hS).mono ?_
      rintro _ c1 ⟨cv, rfl, hcv, bl⟩
      have hT := hS.go bl
      replace hrf := hrf.below bl
      clear bl hS
      have hS := hT
      clear hT
      go_simp
      refine hK.out _ _ (fun _ => hS) ?_
      clear hK K
      refine next_till 6 (by kernel_rfl) rfl (fun K hK => ?_)
      go_simp
      refine (HP.out.2.2.2.1 _ hS hcv).mono ?_
      rintro _ c2 ⟨rg, rfl, -, bl, -⟩
      have hT := hS.go bl
      replace hrf := hrf.below bl
      clear bl hS
      have hS := hT
      clear hT
      go_simp
      refine hK.out _ _ (fun _ => hS) ?_
      clear hK K
      refine take_till (i := 7) (some 140) (.tuple #[rg, .int .i64 7]) rfl rfl (by kernel_rfl) (by kernel_rfl) (by kernel_rfl) (by kernel_rfl) (by decide) (fun _ _ _ h => h) (by rfl) (fun W hW => ?_) hS ?_
      · obtain ⟨⟨x0, x1⟩, x2, x3, x4, x5⟩ := HX.out W hW
        clear hW
        go_simp
      simp only [Act.put, List.setIfInBounds_toArray, List.set_cons_zero, List.set_cons_succ]
      refine take_till (i := 8) (some 148) (rg) rfl rfl (by kernel_rfl) (by kernel_rfl) (by kernel_rfl) (by kernel_rfl) (by decide) (fun _ _ _ h => h) (by rfl) (fun W hW => ?_) hS ?_
      · obtain ⟨⟨x0, x1⟩, x2, x3, x4, x5⟩ := HX.out W hW
        clear hW
        go_simp
      simp only [Act.put, List.setIfInBounds_toArray, List.set_cons_zero, List.set_cons_succ]
      refine take_till (i := 9) (some 149) (.int .i64 7) rfl rfl (by kernel_rfl) (by kernel_rfl) (by kernel_rfl) (by kernel_rfl) (by decide) (fun _ _ _ h => h) (by rfl) (fun W hW => ?_) hS ?_
      · obtain ⟨⟨x0, x1⟩, x2, x3, x4, x5⟩ := HX.out W hW
        clear hW
        go_simp
      simp only [Act.put, List.setIfInBounds_toArray, List.set_cons_zero, List.set_cons_succ]
      refine take_till (i := 10) (some 21) (rg) rfl rfl (by kernel_rfl) (by kernel_rfl) (by kernel_rfl) (by kernel_rfl) (by decide) (fun _ _ _ h => h) (by rfl) (fun W hW => ?_) hS ?_
      · obtain ⟨⟨x0, x1⟩, x2, x3, x4, x5⟩ := HX.out W hW
        clear hW
        go_simp
      simp only [Act.put, List.setIfInBounds_toArray, List.set_cons_zero, List.set_cons_succ]
      refine take_till (i := 11) (some 22) (.int .i64 7) rfl rfl (by kernel_rfl) (by kernel_rfl) (by kernel_rfl) (by kernel_rfl) (by decide) (fun _ _ _ h => h) (by rfl) (fun W hW => ?_) hS ?_
      · obtain ⟨⟨x0, x1⟩, x2, x3, x4, x5⟩ := HX.out W hW
        clear hW
        go_simp
      simp only [Act.put, List.setIfInBounds_toArray, List.set_cons_zero, List.set_cons_succ]

      refine done_till (by kernel_rfl) ?_ _
      have hS0 := hS.go ((Below.refl c2.heap.size c2).drew)
      have hrf0 := hrf.below ((Below.refl c2.heap.size c2).drew)
      clear hS hrf hcv
      go_wp2
      refine region_till 99 (fun W => NQ w w.heap.size n (.slice (some ⟨g, o, none⟩) L vc) es [(.slice (some ⟨ce, 0, none⟩) 4 4, [e.fr, e.to, e.cap, e.cost]), (.slice xa L xc, fl)] W) (by kernel_rfl) hS0 (fun hS => ?_)
      have hrf := hrf0
      clear hS0 hrf0
      refine take_till (i := 0) (some 150) (.int .i64 0) rfl rfl (by kernel_rfl) (by kernel_rfl) (by kernel_rfl) (by kernel_rfl) (by decide) (fun _ _ _ h => h) (by rfl) (fun W hW => ?_) hS ?_
      · obtain ⟨⟨x0, x1⟩, x2, x3, x4, x5⟩ := HX.out W hW
        clear hW
        go_simp
      simp only [Act.put, List.setIfInBounds_toArray, List.set_cons_zero, List.set_cons_succ]
      refine take_till (i := 1) (some 151) (.bool false) rfl rfl (by kernel_rfl) (by kernel_rfl) (by kernel_rfl) (by kernel_rfl) (by decide) (fun _ _ _ h => h) (by rfl) (fun W hW => ?_) hS ?_
      · obtain ⟨⟨x0, x1⟩, x2, x3, x4, x5⟩ := HX.out W hW
        clear hW
        go_simp
      simp only [Act.put, List.setIfInBounds_toArray, List.set_cons_zero, List.set_cons_succ]
      refine take_till (i := 2) (some 152) (.bool false) rfl rfl (by kernel_rfl) (by kernel_rfl) (by kernel_rfl) (by kernel_rfl) (by decide) (fun _ _ _ h => h) (by rfl) (fun W hW => ?_) hS ?_
      · obtain ⟨⟨x0, x1⟩, x2, x3, x4, x5⟩ := HX.out W hW
        clear hW
        go_simp
      simp only [Act.put, List.setIfInBounds_toArray, List.set_cons_zero, List.set_cons_succ]
      refine take_till (i := 3) (some 153) (.int .i64 7) rfl rfl (by kernel_rfl) (by kernel_rfl) (by kernel_rfl) (by kernel_rfl) (by decide) (fun _ _ _ h => h) (by rfl) (fun W hW => ?_) hS ?_
      · obtain ⟨⟨x0, x1⟩, x2, x3, x4, x5⟩ := HX.out W hW
        clear hW
        go_simp
      simp only [Act.put, List.setIfInBounds_toArray, List.set_cons_zero, List.set_cons_succ]
      refine take_till (i := 4) (some 154) (.bool false) rfl rfl (by kernel_rfl) (by kernel_rfl) (by kernel_rfl) (by kernel_rfl) (by decide) (fun _ _ _ h => h) (by rfl) (fun W hW => ?_) hS ?_
      · obtain ⟨⟨x0, x1⟩, x2, x3, x4, x5⟩ := HX.out W hW
        clear hW
        go_simp
      simp only [Act.put, List.setIfInBounds_toArray, List.set_cons_zero, List.set_cons_succ]
      refine take_till (i := 5) (some 155) (.bool false) rfl rfl (by kernel_rfl) (by kernel_rfl) (by kernel_rfl) (by kernel_rfl) (by decide) (fun _ _ _ h => h) (by rfl) (fun W hW => ?_) hS ?_
      · obtain ⟨⟨x0, x1⟩, x2, x3, x4, x5⟩ := HX.out W hW
        clear hW
        go_simp
      simp only [Act.put, List.setIfInBounds_toArray, List.set_cons_zero, List.set_cons_succ]
      refine take_till (i := 6) (some 156) (.bool false) rfl rfl (by kernel_rfl) (by kernel_rfl) (by kernel_rfl) (by kernel_rfl) (by decide) (fun _ _ _ h => h) (by rfl) (fun W hW => ?_) hS ?_
      · obtain ⟨⟨x0, x1⟩, x2, x3, x4, x5⟩ := HX.out W hW
        clear hW
        go_simp
      simp only [Act.put, List.setIfInBounds_toArray, List.set_cons_zero, List.set_cons_succ]
      refine take_till (i := 7) (some 157) (.agg #[.int .i64 n, .slice (some ⟨g, o, none⟩) L vc]) rfl rfl (by kernel_rfl) (by kernel_rfl) (by kernel_rfl) (by kernel_rfl) (by decide) (fun _ _ _ h => h) (by rfl) (fun W hW => ?_) hS ?_
      · obtain ⟨⟨x0, x1⟩, x2, x3, x4, x5⟩ := HX.out W hW
        clear hW
        go_simp
      simp only [Act.put, List.setIfInBounds_toArray, List.set_cons_zero, List.set_cons_succ]
      refine take_till (i := 8) (some 158) (rf) rfl rfl (by kernel_rfl) (by kernel_rfl) (by kernel_rfl) (by kernel_rfl) (by decide) (fun _ _ _ h => h) (by rfl) (fun W hW => ?_) hS ?_
      · obtain ⟨⟨x0, x1⟩, x2, x3, x4, x5⟩ := HX.out W hW
        clear hW
        go_simp
      simp only [Act.put, List.setIfInBounds_toArray, List.set_cons_zero, List.set_cons_succ]
      refine take_till (i := 9) (some 159) (.int .i64 A) rfl rfl (by kernel_rfl) (by kernel_rfl) (by kernel_rfl) (by kernel_rfl) (by decide) (fun _ _ _ h => h) (by rfl) (fun W hW => ?_) hS ?_
      · obtain ⟨⟨x0, x1⟩, x2, x3, x4, x5⟩ := HX.out W hW
        clear hW
        go_simp
      simp only [Act.put, List.setIfInBounds_toArray, List.set_cons_zero, List.set_cons_succ]
      refine next_till 10 (by kernel_rfl) rfl (fun K hK => ?_)
      go_simp
      refine (HP.out.2.2.2.2.1 _ hS hrf).mono ?_
      rintro _ d1 ⟨rfl, bl⟩
      have hT := hS.go bl
      replace hrf := hrf.below bl
      clear bl hS
      have hS := hT
      clear hT
      go_simp
      refine hK.out _ _ (fun _ => hS) ?_
      clear hK K
      refine take_till (i := 11) (some 161) (.bool false) rfl rfl (by kernel_rfl) (by kernel_rfl) (by kernel_rfl) (by kernel_rfl) (by decide) (fun _ _ _ h => h) (by rfl) (fun W hW => ?_) hS ?_
      · obtain ⟨⟨x0, x1⟩, x2, x3, x4, x5⟩ := HX.out W hW
        clear hW
        go_simp
      simp only [Act.put, List.setIfInBounds_toArray, List.set_cons_zero, List.set_cons_succ]
      refine take_till (i := 12) (some 162) (.bool false) rfl rfl (by kernel_rfl) (by kernel_rfl) (by kernel_rfl) (by kernel_rfl) (by decide) (fun _ _ _ h => h) (by rfl) (fun W hW => ?_) hS ?_
      · obtain ⟨⟨x0, x1⟩, x2, x3, x4, x5⟩ := HX.out W hW
        clear hW
        go_simp
      simp only [Act.put, List.setIfInBounds_toArray, List.set_cons_zero, List.set_cons_succ]
      refine take_till (i := 13) (some 163) (.bool false) rfl rfl (by kernel_rfl) (by kernel_rfl) (by kernel_rfl) (by kernel_rfl) (by decide) (fun _ _ _ h => h) (by rfl) (fun W hW => ?_) hS ?_
      · obtain ⟨⟨x0, x1⟩, x2, x3, x4, x5⟩ := HX.out W hW
        clear hW
        go_simp
      simp only [Act.put, List.setIfInBounds_toArray, List.set_cons_zero, List.set_cons_succ]
      refine take_till (i := 14) (some 164) (.agg #[.int .i64 n, .slice (some ⟨g, o, none⟩) L vc]) rfl rfl (by kernel_rfl) (by kernel_rfl) (by kernel_rfl) (by kernel_rfl) (by decide) (fun _ _ _ h => h) (by rfl) (fun W hW => ?_) hS ?_
      · obtain ⟨⟨x0, x1⟩, x2, x3, x4, x5⟩ := HX.out W hW
        clear hW
        go_simp
      simp only [Act.put, List.setIfInBounds_toArray, List.set_cons_zero, List.set_cons_succ]
      refine take_till (i := 15) (some 165) (rf) rfl rfl (by kernel_rfl) (by kernel_rfl) (by kernel_rfl) (by kernel_rfl) (by decide) (fun _ _ _ h => h) (by rfl) (fun W hW => ?_) hS ?_
      · obtain ⟨⟨x0, x1⟩, x2, x3, x4, x5⟩ := HX.out W hW
        clear hW
        go_simp
      simp only [Act.put, List.setIfInBounds_toArray, List.set_cons_zero, List.set_cons_succ]
      refine take_till (i := 16) (some 166) (.int .i64 (othA A)) rfl rfl (by kernel_rfl) (by kernel_rfl) (by kernel_rfl) (by kernel_rfl) (by decide) (fun _ _ _ h => h) (by rfl) (fun W hW => ?_) hS ?_
      · obtain ⟨⟨x0, x1⟩, x2, x3, x4, x5⟩ := HX.out W hW
        clear hW
        go_simp
      simp only [Act.put, List.setIfInBounds_toArray, List.set_cons_zero, List.set_cons_succ]
      refine take_till (i := 18) (some 168) (.pointer (some ⟨ce, 2, none⟩)) rfl rfl (by kernel_rfl) (by kernel_rfl) (by kernel_rfl) (by kernel_rfl) (by decide) (fun _ _ _ h => h) (by rfl) (fun W hW => ?_) hS ?_
      · obtain ⟨⟨x0, x1⟩, x2, x3, x4, x5⟩ := HX.out W hW
        clear hW
        go_simp
      simp only [Act.put, List.setIfInBounds_toArray, List.set_cons_zero, List.set_cons_succ]
      refine take_till (i := 19) (some 169) (.int .i64 e.cap) rfl rfl (by kernel_rfl) (by kernel_rfl) (by kernel_rfl) (by kernel_rfl) (by decide) (fun _ _ _ h => h) (by rfl) (fun W hW => ?_) hS ?_
      · obtain ⟨⟨x0, x1⟩, x2, x3, x4, x5⟩ := HX.out W hW
        clear hW
        go_simp
      simp only [Act.put, List.setIfInBounds_toArray, List.set_cons_zero, List.set_cons_succ]
      refine next_till 17 (by kernel_rfl) rfl (fun K hK => ?_)
      go_simp
      refine (HP.out.2.2.2.2.2.1 _ hS hrf).mono ?_
      rintro _ d2 ⟨rfl, bl⟩
      have hT := hS.go bl
      replace hrf := hrf.below bl
      clear bl hS
      have hS := hT
      clear hT
      go_simp
      refine hK.out _ _ (fun _ => hS) ?_
      clear hK K
      refine take_till (i := 20) (some 170) (.bool false) rfl rfl (by kernel_rfl) (by kernel_rfl) (by kernel_rfl) (by kernel_rfl) (by decide) (fun _ _ _ h => h) (by rfl) (fun W hW => ?_) hS ?_
      · obtain ⟨⟨x0, x1⟩, x2, x3, x4, x5⟩ := HX.out W hW
        clear hW
        go_simp
      simp only [Act.put, List.setIfInBounds_toArray, List.set_cons_zero, List.set_cons_succ]
      refine take_till (i := 21) (some 171) (.bool false) rfl rfl (by kernel_rfl) (by kernel_rfl) (by kernel_rfl) (by kernel_rfl) (by decide) (fun _ _ _ h => h) (by rfl) (fun W hW => ?_) hS ?_
      · obtain ⟨⟨x0, x1⟩, x2, x3, x4, x5⟩ := HX.out W hW
        clear hW
        go_simp
      simp only [Act.put, List.setIfInBounds_toArray, List.set_cons_zero, List.set_cons_succ]

      refine done_till (by kernel_rfl) ?_ _
      have P := HP.out.2.2.2.2.2.2.1 d2 hS hrf
      obtain ⟨n0, n1⟩ := hS.net.net
      have HS := Lib.hid hS
      clear hS hrf hkR hk1 hnro
      go_wp2_with fail
      refine P.mono ?_
      rintro _ f1 ⟨rb, rfl, hrb, bl, -⟩
      have hS := HS.out.go bl
      have P := HP.out.2.2.2.2.2.2.2.2 f1 hS hrb
      have HS := Lib.hid hS
      clear hS hrb bl n0 n1
      go_wp2_with fail
      refine P.mono ?_
      rintro _ f2 ⟨rfl, bl⟩
      have hS := HS.out.go bl
      have hal := arcs_lit f2 [A] #[.int .i64 A] rfl (by simp) (n := 1) rfl
      have hS2 := hS.lit (.cells #[.int .i64 A] 3)
      have P := HP.out.2.2.2.2.2.2.2.1 _ hS2 hal
      obtain ⟨n0, n1⟩ := hS.net.net
      have HS := Lib.hid hS2
      clear hS hS2 hal bl
      go_wp2_with fail
      generalize f2.alloc (.cells #[.int .i64 A] 3) = f3 at *
      refine P.mono ?_
      rintro _ f4 ⟨rfl, bl⟩
      have hS := HS.out.go bl
      have HS := Lib.hid hS
      clear hS bl P n0 n1
      go_wp2
      go_roundw
      case rel => exact ⟨k + 1, by go_num, HQ.out, HS.out⟩
      case measure =>
        have := HQ.out
        simp only [intOf]
        omega
    · obtain rfl : k = 2 := by omega
      have HQ := Lib.hid hq
      clear hq hge hk
      go_wp2_with fail
      refine (works12_any _).mono ?_
      rintro _ w7 ⟨rfl, bl⟩
      go_wp2
      go_ret
      exact ⟨rfl, (HQ.out.go bl).under⟩
end Go.Proofs.Ytohcoknnalgjnaa
