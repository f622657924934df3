/- The walk of OctetBack: it returns true and writes nothing that was there; no condition. -/
import Derived.Test.YtnfmbggffmloeaaOctSorts
namespace Go.Proofs.Ytnfmbggffmloeaa
open Go.RowKit

theorem take_put (h t : List UInt8) (n k : Nat) (hk : mayB k = true) : takeN (h ++ beL n k ++ t) h.length k = n % 256 ^ k ∧ takeX (h ++ beL n k ++ t) h.length k = h.length + k ∧ takeE (h ++ beL n k ++ t) h.length k = 0 := by
  have hl : (h ++ beL n k ++ t).length = h.length + k + t.length := by simp [beL_length]; omega
  have hm : takeMay (h ++ beL n k ++ t) h.length k := ⟨hk, by omega, by omega⟩
  have h2 : (k : Int) ≤ ((h ++ beL n k ++ t).length : Int) - (h.length : Int) := by omega
  have e : ((h ++ beL n k ++ t).drop h.length).take k = beL n k := by
    rw [List.append_assoc, List.drop_left]
    exact List.take_left' (beL_length n k)
  refine ⟨?_, ?_, ?_⟩
  · unfold takeN
    rw [if_pos ⟨hm, h2⟩, Int.toNat_natCast, Int.toNat_natCast, e, beNat_beL]
  · unfold takeX
    rw [if_pos ⟨hm, h2⟩]
  · unfold takeE
    rw [if_pos hm, if_pos h2]

theorem tb_put (h s t : List UInt8) (hs : s.length ≤ 65535) : tbL (putsL h s ++ t) h.length = s ∧ tbX (putsL h s ++ t) h.length = h.length + 2 + s.length ∧ tbE (putsL h s ++ t) h.length = 0 := by
  have hl : (putsL h s ++ t).length = h.length + 2 + s.length + t.length := by simp [putsL, beL_length]; omega
  have e0 : (putsL h s ++ t).drop h.length = beL s.length 2 ++ (s ++ t) := by
    unfold putsL
    rw [List.append_assoc, List.append_assoc, List.drop_left]
  have hn : tbN (putsL h s ++ t) h.length = s.length := by
    unfold tbN
    rw [Int.toNat_natCast, e0, List.take_left' (beL_length _ _), beNat_beL]
    exact Nat.mod_eq_of_lt (by omega)
  have hm : takeMay (putsL h s ++ t) h.length 2 := ⟨rfl, by omega, by omega⟩
  have hok : tbOk (putsL h s ++ t) h.length := ⟨hm, by rw [hn]; omega⟩
  refine ⟨?_, ?_, ?_⟩
  · unfold tbL
    rw [if_pos hok, hn, Int.toNat_natCast, ← List.drop_drop, e0, List.drop_left' (beL_length _ _)]
    exact List.take_left
  · unfold tbX
    rw [if_pos hok, hn]
  · unfold tbE
    rw [if_pos hm, if_pos hok]

set_option maxHeartbeats 1000000 in
theorem octetBack_1 {h s t : Value} {lh ls lt : List UInt8} (n z : Nat) (w : World) (hh : Bs w h lh) (hs : Bs w s ls) (ht : Bs w t lt)
    (hn : n < 18446744073709551616) (n1 : lh.length ≤ 16384) (n2 : ls.length ≤ 16384) (n3 : lt.length ≤ 16384) (hz : (z : Int) % 4 = 0) :
    Calls Try.prog 5 #[h, s, t, .int .u64 (n : Int), .int .u8 (z : Int)] w (Yes w) := by
  obtain ⟨t1, t2, t3⟩ := take_put lh lt n 1 rfl
  obtain ⟨s1, s2, s3⟩ := tb_put (lh ++ beL n 1) ls lt (by omega)
  have len1 : (lh ++ beL n 1).length = lh.length + 1 := by simp [beL_length]
  have len2 : (putsL (lh ++ beL n 1) ls).length = lh.length + 1 + 2 + ls.length := by simp [putsL, beL_length]; omega
  have hp : putL lh n 1 = lh ++ beL n 1 := rfl
  have e1 : n % 256 ^ 1 = n % 256 := rfl
  rw [len1] at s1 s2 s3
  rw [e1] at t1
  simp only [Int.natCast_add, Int.cast_ofNat_Int] at s1 s2 s3 t1 t2 t3
  have H := Lib.hid (And.intro t1 (And.intro t2 (And.intro t3 (And.intro s1 (And.intro s2 (And.intro s3 (And.intro len1 (And.intro len2 hp))))))))
  clear t1 t2 t3 s1 s2 s3 len1 len2 hp e1
  obtain ⟨a0, c0, rfl, hh⟩ := hh.shape
  go_enter Try.func5, Try.ntmps5
  go_wp2_with fail
  refine (vast_no _ hh n1).mono ?_
  rintro e w1 ⟨rfl, rfl⟩
  go_wp2_with fail
  refine (vast_no _ hs n2).mono ?_
  rintro e w1 ⟨rfl, rfl⟩
  go_wp2_with fail
  refine (vast_no _ ht n3).mono ?_
  rintro e w1 ⟨rfl, rfl⟩
  go_wp2_with fail
  refine (put_any n 1 _ hh (by omega)).mono ?_
  rintro e w1 ⟨v1, rfl, o1, b1⟩
  obtain ⟨t1, t2, t3, s1, s2, s3, len1, len2, hp⟩ := H.out
  rw [hp] at o1
  obtain ⟨av, cv, hv1, hb1⟩ := o1.bs.shape
  have hlen : (lh ++ beL n 1).length ≤ 1073741824 := by rw [len1]; omega
  have hlen2 : (putsL (lh ++ beL n 1) ls).length ≤ 1073741824 := by rw [len2]; omega
  have hsz : (lh ++ beL n 1).length + lt.length ≤ 140737488355328 := by rw [len1]; omega
  have hsz2 : (putsL (lh ++ beL n 1) ls).length + lt.length ≤ 140737488355328 := by rw [len2]; omega
  have hlen3 : (lh ++ beL n 1 ++ lt).length ≤ 1073741824 := by rw [List.length_append, len1]; omega
  have hlen4 : (putsL (lh ++ beL n 1) ls ++ lt).length ≤ 1073741824 := by rw [List.length_append, len2]; omega
  rw [len1] at hv1 hb1
  subst hv1
  clear t1 t2 t3 s1 s2 s3 len1 len2 hp
  go_wp2_with fail
  refine (copied_any _ hb1 hlen).mono ?_
  rintro e w2 ⟨v2, rfl, o2, b2⟩
  have hz2 := b2.size
  have ht2 := (ht.below b1).below b2
  go_wp2_with (first | (at_builtin; refine wpList_append_bs bt rfl (.tmp 51) (.tmp 52) rfl w1.heap.size rfl rfl o2 ht2 hsz hz2 ?_; intro v3 w3 o3 g3))
  have b13 := below_own b2 o2 g3
  have b03 := b1.trans (b13.mono b1.size)
  refine (take_any _ 1 _ o3.bs hlen3).mono ?_
  rintro e w4 ⟨he, b4⟩
  obtain ⟨t1, t2, t3, s1, s2, s3, len1, len2, hp⟩ := H.out
  rw [t1, t2, t3] at he
  subst he
  clear t1 t2 t3 s1 s2 s3 len1 len2 hp
  have b04 := b03.trans (b4.mono b03.size)
  have hb4 := (hb1.below b13).below b4
  go_wp2_with fail
  refine (putBytes_any _ hb4 (hs.below b04) hlen (by omega)).mono ?_
  rintro e w5 ⟨v5, rfl, o5, b5⟩
  obtain ⟨t1, t2, t3, s1, s2, s3, len1, len2, hp⟩ := H.out
  obtain ⟨av5, cv5, hv5, hb5⟩ := o5.bs.shape
  rw [len2] at hv5 hb5
  subst hv5
  clear t1 t2 t3 s1 s2 s3 len1 len2 hp
  have b05 := b04.trans (b5.mono b04.size)
  go_wp2_with fail
  refine (copied_any _ hb5 hlen2).mono ?_
  rintro e w6 ⟨v6, rfl, o6, b6⟩
  have hz6 := b6.size
  have ht6 := (ht.below b05).below b6
  go_wp2_with (first | (at_builtin; refine wpList_append_bs bt rfl (.tmp 69) (.tmp 70) rfl w5.heap.size rfl rfl o6 ht6 hsz2 hz6 ?_; intro v7 w7 o7 g7))
  have b57 := below_own b6 o6 g7
  have b07 := b05.trans (b57.mono b05.size)
  refine (takeBytes_any _ _ o7.bs hlen4).mono ?_
  rintro e w8 ⟨v8, he, o8, b8⟩
  obtain ⟨t1, t2, t3, s1, s2, s3, len1, len2, hp⟩ := H.out
  rw [s2, s3] at he
  rw [s1] at o8
  subst he
  clear t1 t2 t3 s1 s2 s3 len1 len2 hp
  have b08 := b07.trans (b8.mono b07.size)
  go_wp2_with fail
  refine (same_true _ o8.bs (hs.below b08) (by omega)).mono ?_
  rintro e w9 ⟨rfl, b9⟩
  have b09 := b08.trans (b9.mono b08.size)
  go_wp2_with fail
  refine (works_any _).mono ?_
  rintro e w10 ⟨rfl, b10⟩
  go_wp2
  go_ret
  exact ⟨rfl, b09.trans (b10.mono b09.size)⟩

set_option maxHeartbeats 1000000 in
theorem octetBack_2 {h s t : Value} {lh ls lt : List UInt8} (n z : Nat) (w : World) (hh : Bs w h lh) (hs : Bs w s ls) (ht : Bs w t lt)
    (hn : n < 18446744073709551616) (n1 : lh.length ≤ 16384) (n2 : ls.length ≤ 16384) (n3 : lt.length ≤ 16384) (hz : (z : Int) % 4 = 1) :
    Calls Try.prog 5 #[h, s, t, .int .u64 (n : Int), .int .u8 (z : Int)] w (Yes w) := by
  obtain ⟨t1, t2, t3⟩ := take_put lh lt n 2 rfl
  obtain ⟨s1, s2, s3⟩ := tb_put (lh ++ beL n 2) ls lt (by omega)
  have len1 : (lh ++ beL n 2).length = lh.length + 2 := by simp [beL_length]
  have len2 : (putsL (lh ++ beL n 2) ls).length = lh.length + 2 + 2 + ls.length := by simp [putsL, beL_length]; omega
  have hp : putL lh n 2 = lh ++ beL n 2 := rfl
  have e1 : n % 256 ^ 2 = n % 65536 := rfl
  rw [len1] at s1 s2 s3
  rw [e1] at t1
  simp only [Int.natCast_add, Int.cast_ofNat_Int] at s1 s2 s3 t1 t2 t3
  have H := Lib.hid (And.intro t1 (And.intro t2 (And.intro t3 (And.intro s1 (And.intro s2 (And.intro s3 (And.intro len1 (And.intro len2 hp))))))))
  clear t1 t2 t3 s1 s2 s3 len1 len2 hp e1
  obtain ⟨a0, c0, rfl, hh⟩ := hh.shape
  go_enter Try.func5, Try.ntmps5
  go_wp2_with fail
  refine (vast_no _ hh n1).mono ?_
  rintro e w1 ⟨rfl, rfl⟩
  go_wp2_with fail
  refine (vast_no _ hs n2).mono ?_
  rintro e w1 ⟨rfl, rfl⟩
  go_wp2_with fail
  refine (vast_no _ ht n3).mono ?_
  rintro e w1 ⟨rfl, rfl⟩
  go_wp2_with fail
  refine (put_any n 2 _ hh (by omega)).mono ?_
  rintro e w1 ⟨v1, rfl, o1, b1⟩
  obtain ⟨t1, t2, t3, s1, s2, s3, len1, len2, hp⟩ := H.out
  rw [hp] at o1
  obtain ⟨av, cv, hv1, hb1⟩ := o1.bs.shape
  have hlen : (lh ++ beL n 2).length ≤ 1073741824 := by rw [len1]; omega
  have hlen2 : (putsL (lh ++ beL n 2) ls).length ≤ 1073741824 := by rw [len2]; omega
  have hsz : (lh ++ beL n 2).length + lt.length ≤ 140737488355328 := by rw [len1]; omega
  have hsz2 : (putsL (lh ++ beL n 2) ls).length + lt.length ≤ 140737488355328 := by rw [len2]; omega
  have hlen3 : (lh ++ beL n 2 ++ lt).length ≤ 1073741824 := by rw [List.length_append, len1]; omega
  have hlen4 : (putsL (lh ++ beL n 2) ls ++ lt).length ≤ 1073741824 := by rw [List.length_append, len2]; omega
  rw [len1] at hv1 hb1
  subst hv1
  clear t1 t2 t3 s1 s2 s3 len1 len2 hp
  go_wp2_with fail
  refine (copied_any _ hb1 hlen).mono ?_
  rintro e w2 ⟨v2, rfl, o2, b2⟩
  have hz2 := b2.size
  have ht2 := (ht.below b1).below b2
  go_wp2_with (first | (at_builtin; refine wpList_append_bs bt rfl (.tmp 51) (.tmp 52) rfl w1.heap.size rfl rfl o2 ht2 hsz hz2 ?_; intro v3 w3 o3 g3))
  have b13 := below_own b2 o2 g3
  have b03 := b1.trans (b13.mono b1.size)
  refine (take_any _ 2 _ o3.bs hlen3).mono ?_
  rintro e w4 ⟨he, b4⟩
  obtain ⟨t1, t2, t3, s1, s2, s3, len1, len2, hp⟩ := H.out
  rw [t1, t2, t3] at he
  subst he
  clear t1 t2 t3 s1 s2 s3 len1 len2 hp
  have b04 := b03.trans (b4.mono b03.size)
  have hb4 := (hb1.below b13).below b4
  go_wp2_with fail
  refine (putBytes_any _ hb4 (hs.below b04) hlen (by omega)).mono ?_
  rintro e w5 ⟨v5, rfl, o5, b5⟩
  obtain ⟨t1, t2, t3, s1, s2, s3, len1, len2, hp⟩ := H.out
  obtain ⟨av5, cv5, hv5, hb5⟩ := o5.bs.shape
  rw [len2] at hv5 hb5
  subst hv5
  clear t1 t2 t3 s1 s2 s3 len1 len2 hp
  have b05 := b04.trans (b5.mono b04.size)
  go_wp2_with fail
  refine (copied_any _ hb5 hlen2).mono ?_
  rintro e w6 ⟨v6, rfl, o6, b6⟩
  have hz6 := b6.size
  have ht6 := (ht.below b05).below b6
  go_wp2_with (first | (at_builtin; refine wpList_append_bs bt rfl (.tmp 69) (.tmp 70) rfl w5.heap.size rfl rfl o6 ht6 hsz2 hz6 ?_; intro v7 w7 o7 g7))
  have b57 := below_own b6 o6 g7
  have b07 := b05.trans (b57.mono b05.size)
  refine (takeBytes_any _ _ o7.bs hlen4).mono ?_
  rintro e w8 ⟨v8, he, o8, b8⟩
  obtain ⟨t1, t2, t3, s1, s2, s3, len1, len2, hp⟩ := H.out
  rw [s2, s3] at he
  rw [s1] at o8
  subst he
  clear t1 t2 t3 s1 s2 s3 len1 len2 hp
  have b08 := b07.trans (b8.mono b07.size)
  go_wp2_with fail
  refine (same_true _ o8.bs (hs.below b08) (by omega)).mono ?_
  rintro e w9 ⟨rfl, b9⟩
  have b09 := b08.trans (b9.mono b08.size)
  go_wp2_with fail
  refine (works_any _).mono ?_
  rintro e w10 ⟨rfl, b10⟩
  go_wp2
  go_ret
  exact ⟨rfl, b09.trans (b10.mono b09.size)⟩

set_option maxHeartbeats 1000000 in
theorem octetBack_4 {h s t : Value} {lh ls lt : List UInt8} (n z : Nat) (w : World) (hh : Bs w h lh) (hs : Bs w s ls) (ht : Bs w t lt)
    (hn : n < 18446744073709551616) (n1 : lh.length ≤ 16384) (n2 : ls.length ≤ 16384) (n3 : lt.length ≤ 16384) (hz : (z : Int) % 4 = 2) :
    Calls Try.prog 5 #[h, s, t, .int .u64 (n : Int), .int .u8 (z : Int)] w (Yes w) := by
  obtain ⟨t1, t2, t3⟩ := take_put lh lt n 4 rfl
  obtain ⟨s1, s2, s3⟩ := tb_put (lh ++ beL n 4) ls lt (by omega)
  have len1 : (lh ++ beL n 4).length = lh.length + 4 := by simp [beL_length]
  have len2 : (putsL (lh ++ beL n 4) ls).length = lh.length + 4 + 2 + ls.length := by simp [putsL, beL_length]; omega
  have hp : putL lh n 4 = lh ++ beL n 4 := rfl
  have e1 : n % 256 ^ 4 = n % 4294967296 := rfl
  rw [len1] at s1 s2 s3
  rw [e1] at t1
  simp only [Int.natCast_add, Int.cast_ofNat_Int] at s1 s2 s3 t1 t2 t3
  have H := Lib.hid (And.intro t1 (And.intro t2 (And.intro t3 (And.intro s1 (And.intro s2 (And.intro s3 (And.intro len1 (And.intro len2 hp))))))))
  clear t1 t2 t3 s1 s2 s3 len1 len2 hp e1
  obtain ⟨a0, c0, rfl, hh⟩ := hh.shape
  go_enter Try.func5, Try.ntmps5
  go_wp2_with fail
  refine (vast_no _ hh n1).mono ?_
  rintro e w1 ⟨rfl, rfl⟩
  go_wp2_with fail
  refine (vast_no _ hs n2).mono ?_
  rintro e w1 ⟨rfl, rfl⟩
  go_wp2_with fail
  refine (vast_no _ ht n3).mono ?_
  rintro e w1 ⟨rfl, rfl⟩
  go_wp2_with fail
  refine (put_any n 4 _ hh (by omega)).mono ?_
  rintro e w1 ⟨v1, rfl, o1, b1⟩
  obtain ⟨t1, t2, t3, s1, s2, s3, len1, len2, hp⟩ := H.out
  rw [hp] at o1
  obtain ⟨av, cv, hv1, hb1⟩ := o1.bs.shape
  have hlen : (lh ++ beL n 4).length ≤ 1073741824 := by rw [len1]; omega
  have hlen2 : (putsL (lh ++ beL n 4) ls).length ≤ 1073741824 := by rw [len2]; omega
  have hsz : (lh ++ beL n 4).length + lt.length ≤ 140737488355328 := by rw [len1]; omega
  have hsz2 : (putsL (lh ++ beL n 4) ls).length + lt.length ≤ 140737488355328 := by rw [len2]; omega
  have hlen3 : (lh ++ beL n 4 ++ lt).length ≤ 1073741824 := by rw [List.length_append, len1]; omega
  have hlen4 : (putsL (lh ++ beL n 4) ls ++ lt).length ≤ 1073741824 := by rw [List.length_append, len2]; omega
  rw [len1] at hv1 hb1
  subst hv1
  clear t1 t2 t3 s1 s2 s3 len1 len2 hp
  go_wp2_with fail
  refine (copied_any _ hb1 hlen).mono ?_
  rintro e w2 ⟨v2, rfl, o2, b2⟩
  have hz2 := b2.size
  have ht2 := (ht.below b1).below b2
  go_wp2_with (first | (at_builtin; refine wpList_append_bs bt rfl (.tmp 51) (.tmp 52) rfl w1.heap.size rfl rfl o2 ht2 hsz hz2 ?_; intro v3 w3 o3 g3))
  have b13 := below_own b2 o2 g3
  have b03 := b1.trans (b13.mono b1.size)
  refine (take_any _ 4 _ o3.bs hlen3).mono ?_
  rintro e w4 ⟨he, b4⟩
  obtain ⟨t1, t2, t3, s1, s2, s3, len1, len2, hp⟩ := H.out
  rw [t1, t2, t3] at he
  subst he
  clear t1 t2 t3 s1 s2 s3 len1 len2 hp
  have b04 := b03.trans (b4.mono b03.size)
  have hb4 := (hb1.below b13).below b4
  go_wp2_with fail
  refine (putBytes_any _ hb4 (hs.below b04) hlen (by omega)).mono ?_
  rintro e w5 ⟨v5, rfl, o5, b5⟩
  obtain ⟨t1, t2, t3, s1, s2, s3, len1, len2, hp⟩ := H.out
  obtain ⟨av5, cv5, hv5, hb5⟩ := o5.bs.shape
  rw [len2] at hv5 hb5
  subst hv5
  clear t1 t2 t3 s1 s2 s3 len1 len2 hp
  have b05 := b04.trans (b5.mono b04.size)
  go_wp2_with fail
  refine (copied_any _ hb5 hlen2).mono ?_
  rintro e w6 ⟨v6, rfl, o6, b6⟩
  have hz6 := b6.size
  have ht6 := (ht.below b05).below b6
  go_wp2_with (first | (at_builtin; refine wpList_append_bs bt rfl (.tmp 69) (.tmp 70) rfl w5.heap.size rfl rfl o6 ht6 hsz2 hz6 ?_; intro v7 w7 o7 g7))
  have b57 := below_own b6 o6 g7
  have b07 := b05.trans (b57.mono b05.size)
  refine (takeBytes_any _ _ o7.bs hlen4).mono ?_
  rintro e w8 ⟨v8, he, o8, b8⟩
  obtain ⟨t1, t2, t3, s1, s2, s3, len1, len2, hp⟩ := H.out
  rw [s2, s3] at he
  rw [s1] at o8
  subst he
  clear t1 t2 t3 s1 s2 s3 len1 len2 hp
  have b08 := b07.trans (b8.mono b07.size)
  go_wp2_with fail
  refine (same_true _ o8.bs (hs.below b08) (by omega)).mono ?_
  rintro e w9 ⟨rfl, b9⟩
  have b09 := b08.trans (b9.mono b08.size)
  go_wp2_with fail
  refine (works_any _).mono ?_
  rintro e w10 ⟨rfl, b10⟩
  go_wp2
  go_ret
  exact ⟨rfl, b09.trans (b10.mono b09.size)⟩

set_option maxHeartbeats 1000000 in
theorem octetBack_8 {h s t : Value} {lh ls lt : List UInt8} (n z : Nat) (w : World) (hh : Bs w h lh) (hs : Bs w s ls) (ht : Bs w t lt)
    (hn : n < 18446744073709551616) (n1 : lh.length ≤ 16384) (n2 : ls.length ≤ 16384) (n3 : lt.length ≤ 16384) (hz : (z : Int) % 4 = 3) :
    Calls Try.prog 5 #[h, s, t, .int .u64 (n : Int), .int .u8 (z : Int)] w (Yes w) := by
  obtain ⟨t1, t2, t3⟩ := take_put lh lt n 8 rfl
  obtain ⟨s1, s2, s3⟩ := tb_put (lh ++ beL n 8) ls lt (by omega)
  have len1 : (lh ++ beL n 8).length = lh.length + 8 := by simp [beL_length]
  have len2 : (putsL (lh ++ beL n 8) ls).length = lh.length + 8 + 2 + ls.length := by simp [putsL, beL_length]; omega
  have hp : putL lh n 8 = lh ++ beL n 8 := rfl
  have e1 : n % 256 ^ 8 = n := Nat.mod_eq_of_lt (by simpa using hn)
  rw [len1] at s1 s2 s3
  rw [e1] at t1
  simp only [Int.natCast_add, Int.cast_ofNat_Int] at s1 s2 s3 t1 t2 t3
  have H := Lib.hid (And.intro t1 (And.intro t2 (And.intro t3 (And.intro s1 (And.intro s2 (And.intro s3 (And.intro len1 (And.intro len2 hp))))))))
  clear t1 t2 t3 s1 s2 s3 len1 len2 hp e1
  obtain ⟨a0, c0, rfl, hh⟩ := hh.shape
  go_enter Try.func5, Try.ntmps5
  go_wp2_with fail
  refine (vast_no _ hh n1).mono ?_
  rintro e w1 ⟨rfl, rfl⟩
  go_wp2_with fail
  refine (vast_no _ hs n2).mono ?_
  rintro e w1 ⟨rfl, rfl⟩
  go_wp2_with fail
  refine (vast_no _ ht n3).mono ?_
  rintro e w1 ⟨rfl, rfl⟩
  go_wp2_with fail
  refine (put_any n 8 _ hh (by omega)).mono ?_
  rintro e w1 ⟨v1, rfl, o1, b1⟩
  obtain ⟨t1, t2, t3, s1, s2, s3, len1, len2, hp⟩ := H.out
  rw [hp] at o1
  obtain ⟨av, cv, hv1, hb1⟩ := o1.bs.shape
  have hlen : (lh ++ beL n 8).length ≤ 1073741824 := by rw [len1]; omega
  have hlen2 : (putsL (lh ++ beL n 8) ls).length ≤ 1073741824 := by rw [len2]; omega
  have hsz : (lh ++ beL n 8).length + lt.length ≤ 140737488355328 := by rw [len1]; omega
  have hsz2 : (putsL (lh ++ beL n 8) ls).length + lt.length ≤ 140737488355328 := by rw [len2]; omega
  have hlen3 : (lh ++ beL n 8 ++ lt).length ≤ 1073741824 := by rw [List.length_append, len1]; omega
  have hlen4 : (putsL (lh ++ beL n 8) ls ++ lt).length ≤ 1073741824 := by rw [List.length_append, len2]; omega
  rw [len1] at hv1 hb1
  subst hv1
  clear t1 t2 t3 s1 s2 s3 len1 len2 hp
  go_wp2_with fail
  refine (copied_any _ hb1 hlen).mono ?_
  rintro e w2 ⟨v2, rfl, o2, b2⟩
  have hz2 := b2.size
  have ht2 := (ht.below b1).below b2
  go_wp2_with (first | (at_builtin; refine wpList_append_bs bt rfl (.tmp 51) (.tmp 52) rfl w1.heap.size rfl rfl o2 ht2 hsz hz2 ?_; intro v3 w3 o3 g3))
  have b13 := below_own b2 o2 g3
  have b03 := b1.trans (b13.mono b1.size)
  refine (take_any _ 8 _ o3.bs hlen3).mono ?_
  rintro e w4 ⟨he, b4⟩
  obtain ⟨t1, t2, t3, s1, s2, s3, len1, len2, hp⟩ := H.out
  rw [t1, t2, t3] at he
  subst he
  clear t1 t2 t3 s1 s2 s3 len1 len2 hp
  have b04 := b03.trans (b4.mono b03.size)
  have hb4 := (hb1.below b13).below b4
  go_wp2_with fail
  refine (putBytes_any _ hb4 (hs.below b04) hlen (by omega)).mono ?_
  rintro e w5 ⟨v5, rfl, o5, b5⟩
  obtain ⟨t1, t2, t3, s1, s2, s3, len1, len2, hp⟩ := H.out
  obtain ⟨av5, cv5, hv5, hb5⟩ := o5.bs.shape
  rw [len2] at hv5 hb5
  subst hv5
  clear t1 t2 t3 s1 s2 s3 len1 len2 hp
  have b05 := b04.trans (b5.mono b04.size)
  go_wp2_with fail
  refine (copied_any _ hb5 hlen2).mono ?_
  rintro e w6 ⟨v6, rfl, o6, b6⟩
  have hz6 := b6.size
  have ht6 := (ht.below b05).below b6
  go_wp2_with (first | (at_builtin; refine wpList_append_bs bt rfl (.tmp 69) (.tmp 70) rfl w5.heap.size rfl rfl o6 ht6 hsz2 hz6 ?_; intro v7 w7 o7 g7))
  have b57 := below_own b6 o6 g7
  have b07 := b05.trans (b57.mono b05.size)
  refine (takeBytes_any _ _ o7.bs hlen4).mono ?_
  rintro e w8 ⟨v8, he, o8, b8⟩
  obtain ⟨t1, t2, t3, s1, s2, s3, len1, len2, hp⟩ := H.out
  rw [s2, s3] at he
  rw [s1] at o8
  subst he
  clear t1 t2 t3 s1 s2 s3 len1 len2 hp
  have b08 := b07.trans (b8.mono b07.size)
  go_wp2_with fail
  refine (same_true _ o8.bs (hs.below b08) (by omega)).mono ?_
  rintro e w9 ⟨rfl, b9⟩
  have b09 := b08.trans (b9.mono b08.size)
  go_wp2_with fail
  refine (works_any _).mono ?_
  rintro e w10 ⟨rfl, b10⟩
  go_wp2
  go_ret
  exact ⟨rfl, b09.trans (b10.mono b09.size)⟩

set_option maxHeartbeats 400000 in
theorem octetBack_v0 {h s t : Value} {lh : List UInt8} (n z : Int) (w : World) (hh : Bs w h lh) (nv : 16384 < lh.length) :
    Calls Try.prog 5 #[h, s, t, .int .u64 n, .int .u8 z] w (Yes w) := by
  go_enter Try.func5, Try.ntmps5
  go_wp2_with fail
  refine (vast_yes _ hh nv).mono ?_
  rintro e w1 ⟨rfl, rfl⟩
  go_wp2_with fail
  refine (works_any _).mono ?_
  rintro e w3 ⟨rfl, b3⟩
  go_wp2
  go_ret
  exact ⟨rfl, b3⟩

set_option maxHeartbeats 400000 in
theorem octetBack_v1 {h s t : Value} {lh ls : List UInt8} (n z : Int) (w : World) (hh : Bs w h lh) (hs : Bs w s ls) (n1 : lh.length ≤ 16384) (nv : 16384 < ls.length) :
    Calls Try.prog 5 #[h, s, t, .int .u64 n, .int .u8 z] w (Yes w) := by
  go_enter Try.func5, Try.ntmps5
  go_wp2_with fail
  refine (vast_no _ hh n1).mono ?_
  rintro e w1 ⟨rfl, rfl⟩
  go_wp2_with fail
  refine (vast_yes _ hs nv).mono ?_
  rintro e w1 ⟨rfl, rfl⟩
  go_wp2_with fail
  refine (works_any _).mono ?_
  rintro e w3 ⟨rfl, b3⟩
  go_wp2
  go_ret
  exact ⟨rfl, b3⟩

set_option maxHeartbeats 400000 in
theorem octetBack_v2 {h s t : Value} {lh ls lt : List UInt8} (n z : Int) (w : World) (hh : Bs w h lh) (hs : Bs w s ls) (ht : Bs w t lt) (n1 : lh.length ≤ 16384) (n2 : ls.length ≤ 16384) (nv : 16384 < lt.length) :
    Calls Try.prog 5 #[h, s, t, .int .u64 n, .int .u8 z] w (Yes w) := by
  go_enter Try.func5, Try.ntmps5
  go_wp2_with fail
  refine (vast_no _ hh n1).mono ?_
  rintro e w1 ⟨rfl, rfl⟩
  go_wp2_with fail
  refine (vast_no _ hs n2).mono ?_
  rintro e w1 ⟨rfl, rfl⟩
  go_wp2_with fail
  refine (vast_yes _ ht nv).mono ?_
  rintro e w1 ⟨rfl, rfl⟩
  go_wp2_with fail
  refine (works_any _).mono ?_
  rintro e w3 ⟨rfl, b3⟩
  go_wp2
  go_ret
  exact ⟨rfl, b3⟩

theorem octetBack_any {h s t : Value} {lh ls lt : List UInt8} (n z : Nat) (w : World) (hh : Bs w h lh) (hs : Bs w s ls) (ht : Bs w t lt)
    (hn : n < 18446744073709551616) (_hz : z < 256) :
    Calls Try.prog 5 #[h, s, t, .int .u64 (n : Int), .int .u8 (z : Int)] w (Yes w) := by
  rcases Nat.lt_or_ge 16384 lh.length with q1 | q1
  · exact octetBack_v0 n z w hh q1
  rcases Nat.lt_or_ge 16384 ls.length with q2 | q2
  · exact octetBack_v1 n z w hh hs q1 q2
  rcases Nat.lt_or_ge 16384 lt.length with q3 | q3
  · exact octetBack_v2 n z w hh hs ht q1 q2 q3
  have : (z : Int) % 4 = 0 ∨ (z : Int) % 4 = 1 ∨ (z : Int) % 4 = 2 ∨ (z : Int) % 4 = 3 := by omega
  rcases this with q | q | q | q
  · exact octetBack_1 n z w hh hs ht hn q1 q2 q3 q
  · exact octetBack_2 n z w hh hs ht hn q1 q2 q3 q
  · exact octetBack_4 n z w hh hs ht hn q1 q2 q3 q
  · exact octetBack_8 n z w hh hs ht hn q1 q2 q3 q
end Go.Proofs.Ytnfmbggffmloeaa
