/- The walk of Walk: the pages of a root, rising; condition: the tree is whole, the power is on. -/
import Derived.Test.YtgekeemhbnhelaaGreatM35
import Derived.Test.YtgekeemhbnhelaaGreatM37
import Derived.Test.YtgekeemhbnhelaaGreatM32
import Derived.Test.YtgekeemhbnhelaaGreatM10
import Derived.Sort.OwnSortedInts
namespace Go.Proofs.YtgekeemhbnhelaaGreat
open Go.RowKit Go.Sort Go.Shelf
attribute [local go_sem] Oper.semAt_some

def sortedI (l : List Int) : List Int := l.mergeSort fun x y => decide (x ≤ y)
theorem kdIn_cells (l : List Int) : kdIn.cells l = l.map (Value.int .i64) := by
  induction l with
  | nil => rfl
  | cons a r ih =>
    unfold Kd.cells at *
    rw [List.flatMap_cons, ih]
    rfl
theorem sort_any {w : World} {S : Nat → Prop} {v : Value} {l : List Int} (h : Ro kdIn 3 w S v l) (hl : l.length < 4294967296) :
    Calls Tryz.prog 62 #[v] w fun e w' => e = .returned (.tuple #[]) ∧ Ro kdIn 3 w' S v (sortedI l) ∧ w.grownBy w' v.ownBlock := by
  obtain ⟨ts, h1, h2, h3, h4⟩ := h
  obtain rfl : ts = l := by rw [← h1]; exact (List.map_id ts).symm
  have hlen : (sortedI ts).length = ts.length := by unfold sortedI; simp
  rw [kdIn_cells] at h2
  rcases h2.2 with ⟨rfl, h0⟩ | ⟨g, cap, cur, rfl, hb, hg, hn, hm, hsz, htk⟩
  · obtain rfl : ts = [] := List.eq_nil_of_length_eq_zero h0
    refine (AnyM.slices_Sort_int_none Tryz.sortA none 0 w).mono ?_
    rintro e w' ⟨rfl, rfl⟩
    have e0 : sortedI [] = [] := by unfold sortedI; simp
    rw [e0]
    exact ⟨rfl, ⟨[], rfl, h2, h3, h4⟩, rfl, rfl, rfl, Nat.le_refl _, fun _ _ _ => rfl⟩
  · have e1 : ts.length * kdIn.sz = ts.length := Nat.mul_one _
    rw [e1] at htk
    have hH : Go.Sort.Holds (Value.int .i64) w g 0 ts.toArray := holds_of_blockI hg htk
    refine (AnyM.slices_Sort_int Tryz.sortA g 0 cap ts w hH (Array.getElem?_eq_some_iff.1 hg).1 (by omega)).mono ?_
    rintro e w' ⟨rfl, n, os, rfl⟩
    refine ⟨rfl, ⟨sortedI ts, List.map_id _, ?_, (fun _ _ => trivial), h4⟩, grownBy_sortedI _⟩
    rw [hlen, kdIn_cells]
    exact ownsRow_sortedI (n := n) (os := os) (ts := sortedI ts) hlen (Nat.zero_le g) hg hn hm hsz
section
variable {w : World} {tb db pb fr : Nat} {D : Dv} {ps : List Pg} {S : Nat → Prop}
/-- What Walk answers. -/
def Walks (w : World) (S : Nat → Prop) (pgs : List Nat) (e : Ending) (w' : World) : Prop := ∃ v, e = .returned (.tuple #[v, err 0]) ∧ Rd kdIn w' S v (sortedI (ints pgs)) ∧ Below w.heap.size w w'

set_option maxRecDepth 100000 in
set_option maxHeartbeats 8000000 in
theorem walk_any (hT : TrS w tb db pb fr D ps S) (ho : D.on = true) {root : Int} {prs : List Pr} {pgs : List Nat} (hR : Rt (blkOf D fr) ps.length root prs pgs) (hM : pgs.length ≤ 4096) :
    Calls Tryz.prog 29 #[ptr tb, .int .i64 root] w (Walks w S pgs) := by
  have hroot := hR.lt.2
  have hb2 : Below w.heap.size w ((w.alloc (.cells #[.slice none 0 0] 61)).alloc (.cells #[.int .i64 0] 31)) := ((Below.refl _ _).alloc (Nat.le_refl _) _).alloc (by simp) _
  have C1 : Cel ((w.alloc (.cells #[.slice none 0 0] 61)).alloc (.cells #[.int .i64 0] 31)) w.heap.size [.slice none 0 0] 61 := (Cel.new w _ _).alloc _
  have C2 : Cel ((w.alloc (.cells #[.slice none 0 0] 61)).alloc (.cells #[.int .i64 0] 31)) (w.heap.size + 1) [.int .i64 0] 31 := by
    have := Cel.new (w.alloc (.cells #[.slice none 0 0] 61)) #[.int .i64 0] 31
    simpa using this
  obtain ⟨w2, hw2⟩ : ∃ w2, w2 = (w.alloc (.cells #[.slice none 0 0] 61)).alloc (.cells #[.int .i64 0] 31) := ⟨_, rfl⟩
  have hz2 : w2.heap.size = w.heap.size + 2 := by rw [hw2]; simp
  have R := tready_any root true _ (hT.below hb2)
  rw [hroot, if_pos ⟨rfl, rfl⟩] at R
  have PA := nodes_any tb root (.slice none 0 0) (.slice none 0 0) (w2.alloc (.cells #[.slice none 0 0] 61))
  rw [hw2] at PA
  rw [← hw2] at hb2 C1 C2
  have HC := Lib.hid (And.intro hb2 (And.intro C1 (And.intro C2 (And.intro hT (And.intro hR (And.intro hM (And.intro hz2 hw2)))))))
  clear hroot hb2 C1 C2 hT hR hM hz2 hw2
  refine calls_of_wp_marked 12 Tryz.func29 rfl ?_
  simp only [Tryz.ntmps29, List.size_toArray, List.length_cons, List.length_nil, Nat.reduceAdd, Nat.reduceSub, Array.replicate_succ, Array.replicate_zero, List.push_toArray, List.append_toArray, List.nil_append, List.cons_append]
  go_wp2_with fail
  refine R.mono ?_
  rintro e w1 ⟨rfl, rfl⟩
  clear R
  go_wp2_with fail
  refine PA.mono ?_
  rintro e w1 ⟨rfl, rfl⟩
  clear PA
  go_wp2
  obtain ⟨hb2, C1, C2, hT, hR, hM, hz2, hw2⟩ := HC.out
  simp only [← hw2]
  clear hw2
  have BL := (((Cel.new w2 #[.slice none 0 0] 61).alloc (.cells #[ptr tb] 34)).alloc (.cells #[.int .i64 root] 3)).alloc (.cells #[.slice none 0 0, .slice none 0 0] 101)
  have BT := ((Cel.new (w2.alloc (.cells #[.slice none 0 0] 61)) #[ptr tb] 34).alloc (.cells #[.int .i64 root] 3)).alloc (.cells #[.slice none 0 0, .slice none 0 0] 101)
  have BR := (Cel.new ((w2.alloc (.cells #[.slice none 0 0] 61)).alloc (.cells #[ptr tb] 34)) #[.int .i64 root] 3).alloc (.cells #[.slice none 0 0, .slice none 0 0] 101)
  have BS := Cel.new (((w2.alloc (.cells #[.slice none 0 0] 61)).alloc (.cells #[ptr tb] 34)).alloc (.cells #[.int .i64 root] 3)) #[.slice none 0 0, .slice none 0 0] 101
  have hz6 : ((((w2.alloc (.cells #[.slice none 0 0] 61)).alloc (.cells #[ptr tb] 34)).alloc (.cells #[.int .i64 root] 3)).alloc (.cells #[.slice none 0 0, .slice none 0 0] 101)).heap.size = w.heap.size + 6 := by simp [hz2]
  have hb26 : Below w2.heap.size w2 ((((w2.alloc (.cells #[.slice none 0 0] 61)).alloc (.cells #[ptr tb] 34)).alloc (.cells #[.int .i64 root] 3)).alloc (.cells #[.slice none 0 0, .slice none 0 0] 101)) := ((((Below.refl _ _).alloc (Nat.le_refl _) _).alloc (by simp) _).alloc (by simp; omega) _).alloc (by simp; omega) _
  have hbw6 : Below w.heap.size w ((((w2.alloc (.cells #[.slice none 0 0] 61)).alloc (.cells #[ptr tb] 34)).alloc (.cells #[.int .i64 root] 3)).alloc (.cells #[.slice none 0 0, .slice none 0 0] 101)) := hb2.trans (hb26.mono (by omega))
  simp only [World.size_alloc, hz2, Nat.add_assoc, Nat.reduceAdd] at BL BT BR BS
  simp only [World.size_alloc, hz2, Nat.add_assoc, Nat.reduceAdd]
  replace C1 := C1.below hb26 C1.lt
  replace C2 := C2.below hb26 C2.lt
  generalize (((w2.alloc (.cells #[.slice none 0 0] 61)).alloc (.cells #[ptr tb] 34)).alloc (.cells #[.int .i64 root] 3)).alloc (.cells #[.slice none 0 0, .slice none 0 0] 101) = w6 at *
  refine range_on (n := 12) (by decide) (gf := 87) (lb := #[.pointer (some ⟨w.heap.size + 4, 0, none⟩), .pointer (some ⟨w.heap.size + 3, 0, none⟩), .pointer (some ⟨w.heap.size + 5, 0, none⟩)]) rfl (enters_of Tryz.func87 (by kernel_rfl) rfl) ?_
  intro gn rec W1 hrec hW1
  have bw1 : Below w6.heap.size w6 W1 := by rw [hW1]; exact ((Below.refl _ _).alloc (Nat.le_refl _) _).alloc (by simp) _
  have hz1 : W1.heap.size = w.heap.size + 8 := by rw [hW1]; simp [hz6]
  have bwW : Below w.heap.size w W1 := hbw6.trans (bw1.mono (by omega))
  have L1 : Lst kdIn 3 61 w S w.heap.size (rec .ready none) [] W1 (Five w.heap.size) (Five w.heap.size) (.slice none 0 0) := {
    cl := BL.below bw1 BL.lt
    ro := Ro.nil _ _ _ _
    cc := fun q => ⟨.inl, fun h => h.elim id fun h => by cases h⟩
    cf := fun _ h => h
    nl := fun q hq => by cases hq
    ll := by
      have := World.alloc_heap_new (w6.alloc (.deferred (some []))) (.loop (rec .ready none))
      rw [World.size_alloc, hz6] at this
      rw [hW1]
      exact this
    dd := by
      rw [hW1, ← hz6]
      exact (Below.heap_alloc _ _ _ (by simp)).trans (World.alloc_heap_new w6 _)
    c1 := C1.below bw1 C1.lt
    c2 := C2.below bw1 C2.lt
    bw := bwW
    fl := fun q hq => by unfold Five at hq; omega }
  rw [hz6]
  have hTk : TakesN (fun (acc : List Nd) W C F => ∃ lv, Lst kdIn 3 61 w S w.heap.size (rec .ready none) (acc.map Nd.page) W C F lv) S 4096 (w.heap.size + 7) := by
    rintro m acc nd v W2 C F ⟨lv, hL⟩ ⟨ea, ec, ta, tc, rfl, -, -⟩ - hacc
    obtain ⟨npg, nl, nes, nto⟩ := nd
    simp only
    obtain ⟨en, hen⟩ : ∃ en, en = nes.length := ⟨_, rfl⟩
    obtain ⟨tn, htn⟩ : ∃ tn, tn = nto.length := ⟨_, rfl⟩
    rw [← hen, ← htn]
    clear hen htn
    refine yield_deep (m := 12) m (yield_on (a₁ := { tmps := #[ptr tb, .int .i64 root, undef, undef, .pointer (some ⟨w.heap.size, 0, none⟩), .pointer (some ⟨w.heap.size + 1, 0, none⟩), err 0, .pointer (some ⟨w.heap.size + 2, 0, none⟩), .pointer (some ⟨W2.heap.size, 0, none⟩), .int .i64 0, ptr tb, .int .i64 root, err 0, err 0, .bool false, undef, ptr tb, .int .i64 root, spv (.slice none 0 0) (.slice none 0 0), .func (.func 87) #[] #[.pointer (some ⟨w.heap.size + 4, 0, none⟩), .pointer (some ⟨w.heap.size + 3, 0, none⟩), .pointer (some ⟨w.heap.size + 5, 0, none⟩)], ndv npg (nl : Int) (.slice ea en ec) (.slice ta tn tc), .int .i64 0, undef, undef, undef, undef, undef, undef, undef, undef, undef, undef, undef], defers := [] }) (W1 := W2.alloc (.cells #[.int .i64 npg, .int .i64 (nl : Int), .slice ea en ec, .slice ta tn tc] 85)) hrec hL.ll rfl ?assign ?hl1 ?body)
    case assign =>
      clear hT hR hM hL hacc L1 C1 C2 BL BT BR BS hb2 hb26 hbw6 bw1 bwW hW1 hz1 hz2 hz6
      intro K hK
      gi_wp2
      exact hK
    case hl1 => exact (Below.heap_alloc _ _ _ (Array.getElem?_eq_some_iff.1 hL.ll).1).trans hL.ll
    case body =>
      have hba : Below W2.heap.size W2 (W2.alloc (.cells #[.int .i64 npg, .int .i64 (nl : Int), .slice ea en ec, .slice ta tn tc] 85)) := (Below.refl _ _).alloc (Nat.le_refl _) _
      obtain ⟨hLb, stb⟩ := (hL.below hba).turn (rec .busy none)
      have h8 := hL.eight
      have CP := (Cel.new W2 #[.int .i64 npg, .int .i64 (nl : Int), .slice ea en ec, .slice ta tn tc] 85).kept (w' := (W2.alloc (.cells #[.int .i64 npg, .int .i64 (nl : Int), .slice ea en ec, .slice ta tn tc] 85)).putObj (w.heap.size + 7) (.loop (rec .busy none))) (World.putObj_heap_other (by omega))
      have st0 : Step C W2 ((W2.alloc (.cells #[.int .i64 npg, .int .i64 (nl : Int), .slice ea en ec, .slice ta tn tc] 85)).putObj (w.heap.size + 7) (.loop (rec .busy none))) C := (Step.of_below hba C).trans stb
      generalize (W2.alloc (.cells #[.int .i64 npg, .int .i64 (nl : Int), .slice ea en ec, .slice ta tn tc] 85)).putObj (w.heap.size + 7) (.loop (rec .busy none)) = Wb at *
      have hbl : Below Wb.heap.size Wb (Wb.alloc (.cells #[.int .i64 npg] 3)) := (Below.refl _ _).alloc (Nat.le_refl _) _
      have hLl := hLb.below hbl
      have hlit := rd_lit kdIn Wb 3 (Su S F) (fun q hq => hq.elim (fun h => by have := hT.lt q h; have := hLb.bw.size; omega) fun h => (hLb.fl q h).2) [npg] #[.int .i64 npg] rfl (fun _ _ => trivial) (by simp) (n := 1) rfl
      obtain ⟨v', w7, hrun, ro7, st7, gr7, lo7⟩ := run_append_ro (m := [npg]) int_ty 61 hLl.ro hlit (by simp; omega)
      obtain ⟨hP, stP, hc7, hmP⟩ := hLl.put gr7 lo7 ro7
      obtain ⟨la, lc, rfl, _⟩ := hLl.ro.shape
      obtain ⟨ua, uc, rfl, _⟩ := ro7.shape
      obtain ⟨un, hun⟩ : ∃ un, un = (acc.map Nd.page ++ [npg]).length := ⟨_, rfl⟩
      obtain ⟨an, han⟩ : ∃ an, an = (acc.map Nd.page).length := ⟨_, rfl⟩
      rw [← hun] at hrun hP stP hmP
      rw [← han] at hrun hLb hc7
      obtain ⟨hPt, stt⟩ := hP.turn (rec .ready none)
      have hall := ((st0.bel hbl).trans stP).trans stt
      have hle : W2.heap.size ≤ (Wb.alloc (.cells #[.int .i64 npg] 3)).heap.size := (st0.bel hbl).size
      have x0 := CP.cell 0
      have l0 := hLb.cl.cell 0
      have l7 := hc7.cell 0
      have f7 := hc7.frozen 0
      have HE := Lib.hid (And.intro hP (And.intro hPt (And.intro hall (fun q hq => (hmP q hq).imp id fun h => Nat.le_trans hle h))))
      clear hT hR hM hL hacc L1 C1 C2 BL BT BR BS hb2 hb26 hbw6 bw1 bwW hW1 hz1 hz2 hz6 hba hLb stb h8 CP st0 hbl hLl hlit ro7 st7 gr7 lo7 hP stP hc7 hmP hun han hPt stt hall hle hrec
      gi_wp2_with (gi_at_builtin; refine round_append_run rfl (.tmp 25) (.tmp 28) _ rfl rfl rfl hrun ?_)
      obtain ⟨hP, hPt, hall, hm⟩ := HE.out
      exact ⟨hP.ll, _, hall, _, ⟨_, hPt⟩, fun q hq => .inl hq, hm⟩
  have HH : Holds w (fun (acc : List Nd) W C F => ∃ lv, Lst kdIn 3 61 w S w.heap.size (rec .ready none) (acc.map Nd.page) W C F lv) := ⟨fun h => Lst.holds.base h, fun h a b c d => Lst.holds.stay h a b c d⟩
  refine ((callsIn_wide (n := 12 - 1)).2 (nodes1_any HH hT ho (Bsf.nil w S) (Bsf.nil w S) hTk (acc := []) hR ⟨_, L1⟩ ((BR.below bw1 BR.lt).cell 0) ((BT.below bw1 BT.lt).cell 0) ((BS.below bw1 BS.lt).cell 0) ((BS.below bw1 BS.lt).cell 1) (by simpa using hM))).mono ?_
  rintro e W2 ⟨⟨r, rfl⟩, C8, F8, ns, st8, ⟨lv, hL8⟩, hw8⟩
  refine ⟨⟨_, rfl⟩, hL8.ll, ?_⟩
  rw [List.nil_append, hw8.pg rfl rfl] at hL8
  obtain ⟨hLe, -⟩ := hL8.turn (rec .exhausted none)
  have SO := sort_any hLe.ro (by rw [ints_length]; omega)
  obtain ⟨la, lc, rfl, _⟩ := hLe.ro.shape
  obtain ⟨an, han⟩ : ∃ an, an = (ints pgs).length := ⟨_, rfl⟩
  rw [← han] at hLe SO
  have l0 := hLe.cl.cell 0
  have HE := Lib.hid (And.intro hLe hT)
  clear hT hR hM L1 C1 C2 BL BT BR BS hb2 hb26 hbw6 bw1 bwW hW1 hz1 hz2 hz6 hTk hL8 st8 hLe han hrec HH hw8
  generalize W2.putObj (w.heap.size + 7) (.loop (rec .exhausted none)) = We at *
  go_wp2_with fail
  refine SO.mono ?_
  rintro e w9 ⟨rfl, ro9, gr9⟩
  clear SO l0
  obtain ⟨hLe, hT⟩ := HE.out
  have hL9 := hLe.same gr9 ro9
  have hD := hL9.done hT.lt
  have l0 := hL9.cl.cell 0
  have e0 := hL9.c1.cell 0
  have e1 := hL9.c2.cell 0
  have g0 := hL9.c1.frozen 0
  have g1 := hL9.c2.frozen 0
  have HE2 := Lib.hid hD
  clear hLe hT hL9 hD ro9 gr9 HE
  go_wp2
  obtain ⟨hb, hr, h1, h2, hd⟩ := HE2.out
  refine ⟨by simp, .inl ⟨_, _, rfl, run_takeDeferred hd, ?_⟩⟩
  exact ⟨_, results_cells2 (v1 := .slice la an lc) (v2 := .int .i64 0) rfl rfl rfl Tryz.underlying61 rfl Tryz.underlying31 rfl (h1.cell 0) (h2.cell 0), _, rfl, hr, hb⟩
end
end Go.Proofs.YtgekeemhbnhelaaGreat
