/- The walks of hypostyleref.zigsOf, DeltaBytes. -/
import Derived.Test.YtpjmpbpbfjemdaaDR1
import Derived.Test.YtpjmpbpbfjemdaaHR2
import Derived.Test.YtpjmpbpbfjemdaaDW3
namespace Go.Proofs.Ytpjmpbpbfjemdaa
open Go.RowKit
set_option linter.unusedVariables false

theorem zigs_step (d : List Nat) (k : Nat) (h1 : 1 ≤ k) (h : k < d.length) : D.zigs ((d.take (k + 1)).drop 1) = D.zigs ((d.take k).drop 1) ++ [D.zig (d.getD k 0)] := by
  have e : d.take (k + 1) = d.take k ++ [d.getD k 0] := by
    rw [List.take_succ_eq_append_getElem h]; simp [List.getD, List.getElem?_eq_getElem h]
  rw [e, List.drop_append_of_le_length (by rw [List.length_take]; omega)]
  simp [D.zigs]

set_option maxHeartbeats 1000000 in
set_option maxRecDepth 100000 in
theorem rzigs_any (a : Option Addr) (c : Nat) (l : List Nat) (w : World) (hl : l.length * 8 ≤ 140737488351232) (hx : ∀ x ∈ l, x < 18446744073709551616) (hu : Nums w w.heap.size a l) :
    Calls Try.prog 44 #[.slice a l.length c] w (NumsC (dz l) w.heap.size w) := by
  have hrd := rdiffs_any a c l w hl hx hu
  have hdl := D.diffs_length l
  have hdx := D.diffs_lt l hx
  unfold dz
  generalize D.diffs l = d at *
  have HRD := Lib.hid hrd
  have HDX := Lib.hid hdx
  have HZL := Lib.hid (show (D.zigs (d.drop 1)).length = d.length - 1 by simp [D.zigs])
  have HKL := Lib.hid (fun k (h1 : 1 ≤ k) (h : k ≤ d.length) => show (D.zigs ((d.take k).drop 1)).length = k - 1 by simp [D.zigs]; omega)
  have HST := Lib.hid (fun k h1 h => zigs_step d k h1 h)
  have HK1 := Lib.hid (show D.zigs ((d.take 1).drop 1) = [] by cases d <;> simp [D.zigs])
  have hdb : d.length * 8 ≤ 140737488351232 := by omega
  clear hrd hdx hx hu
  go_enter Try.func44, Try.ntmps44
  go_wp2_with fail
  refine (HRD.out).mono ?_
  rintro e w1 ⟨a1, c1, rfl, n1, _, _, hb1⟩
  have HN := Lib.hid n1
  clear n1 hdl
  go_wp2_with fail
  go_loopw [4, 5] (fun v i wr => ∃ k : Nat, 1 ≤ k ∧ (k ≤ d.length ∨ k = 1) ∧ i = .int .i64 k ∧ NumRow w1.heap.size (D.zigs ((d.take k).drop 1)) v wr ∧ Below w1.heap.size w1 wr) (fun _ i _ => d.length + 1 - (intOf i).toNat)
  case atStart => exact ⟨1, by omega, Or.inr rfl, rfl, by rw [HK1.out]; exact ⟨rfl, Or.inl ⟨rfl, rfl⟩⟩, Below.refl _ _⟩
  case round =>
    obtain ⟨k, h1k, hk, rfl, hrow, hbw⟩ := hrel
    by_cases hlt : k < d.length
    · obtain ⟨b, off, rfl, hb, hcc⟩ := HN.out (fun e => by rw [e] at hlt; simp at hlt)
      have ck := (hbw.cell (p := ⟨b, off + k, none⟩) hb).trans (hcc k hlt)
      have hxk := HDX.out _ (getD_mem d k hlt)
      have HT := Lib.hid (HST.out k h1k hlt)
      have hln := HKL.out k h1k (by omega)
      generalize d.getD k 0 = x at *
      generalize D.zigs ((d.take k).drop 1) = acc at *
      have HZ := Lib.hid (fun W => rzig_any x W hxk)
      generalize D.zig x = z at *
      have hlb : (acc.length + 1) * 8 ≤ 140737488355328 := by omega
      have hown : wr.ownsRow w1.heap.size 23 1 u4 acc.length (nv acc) := hrow
      have HOWN := Lib.hid hown
      have hsz2 := hbw.size
      have hb5 : w1.heap.size ≤ (wr.alloc (.cells #[.int .u64 (z : Int)] 23)).heap.size := by simp; omega
      clear hrow hown hln hcc
      go_wp2_with fail
      refine (HZ.out _).mono ?_
      rintro e w2 ⟨rfl, rfl⟩
      go_wp2_with (at_builtin; refine wpList_append_one rfl (.tmp 14) (.tmp 20) rfl w1.heap.size _ acc.length _ rfl (HOWN.out.alloc _) wr.heap.size z rfl (World.cell?_alloc_new _ _ _ _) hlb hb5 ?_)
      intro v' w5 hown5 hgrow5
      have hbw5 : Below w1.heap.size w1 w5 := (hbw.alloc hbw.size _).grown hgrow5 (by have := hbw.size; simp; omega) (fun k hk => (HOWN.out.lt k hk).1)
      go_wp2_with fail
      refine ⟨⟨k + 1, by omega, Or.inl (by omega), by go_num, ?_, hbw5⟩, by simp [intOf]; omega⟩
      rw [HT.out]; unfold NumRow; rw [List.length_append]; simpa [nv] using hown5
    · have hcut : (d.take k).drop 1 = d.drop 1 := by
        rcases hk with hk | hk
        · rw [List.take_of_length_le (by omega)]
        · rw [hk, List.drop_eq_nil_of_le (by rw [List.length_take]; omega), List.drop_eq_nil_of_le (by omega)]
      rw [hcut] at hrow
      obtain ⟨a', c', rfl, hn, h1, h2⟩ := numRow_numsc hrow
      have HFIN := Lib.hid hn
      have hge : d.length ≤ k := by omega
      clear hcut hrow hn hk
      generalize D.zigs (d.drop 1) = zz at *
      go_wp2_with fail
      go_ret
      exact ⟨a', c', rfl, HFIN.out, h1, h2, below_then hb1 hbw⟩

set_option maxHeartbeats 1000000 in
set_option maxRecDepth 100000 in
theorem rdbytes_some (b off c : Nat) (l : List Nat) (w : World) (hl : l.length ≤ 1048576) (h0 : 0 < l.length) (hx : ∀ x ∈ l, x < 18446744073709551616) (hb : b < w.heap.size)
    (hc : ∀ i, i < l.length → w.cell? ⟨b, off + i, none⟩ = some (.int .u64 ((l.getD i 0 : Nat) : Int))) :
    Calls Try.prog 26 #[.slice (some ⟨b, off, none⟩) l.length c] w (TextPost (dbytes l) w) := by
  have hne : l ≠ [] := fun e => by rw [e] at h0; simp at h0
  have hhd : l.headD 0 = l.getD 0 0 := by cases l with
    | nil => simp at h0
    | cons x t => rfl
  have hx0 := hx _ (getD_mem l 0 h0)
  have c0 := hc 0 h0
  have hrz := rzigs_any (some ⟨b, off, none⟩) c l w (by omega) hx (fun _ => ⟨b, off, rfl, hb, hc⟩)
  have hzl := dz_length l
  have hzx := dz_lt l hx
  have hw64 := B.wd_64 (dz l) hzx
  have hzf : ∀ x ∈ dz l, x < 2 ^ B.wd (dz l) := (B.wd_le _ _).1 (Nat.le_refl _)
  have hbl := H.bytes_len (B.wd (dz l)) (dz l)
  have hmul : (18 + B.wd (dz l)) * (dz l).length ≤ (18 + 64) * 1048576 := Nat.mul_le_mul (by omega) (by omega)
  have hres : dbytes l = V.enc (l.getD 0 0) ++ [UInt8.ofNat (B.wd (dz l))] ++ H.bytes (B.wd (dz l)) (dz l) := by
    unfold dbytes; rw [if_neg hne, hhd]
  rw [hres]
  have hwd := fun A c' W W' h => rwidth_any A c' (dz l) W W' (by unfold maxLen; omega) hzx h
  have hhb := fun A c' W h1 h2 h => hbytes_any A c' (dz l) (B.wd (dz l)) W (by omega) h1 h2 hw64 hzf h
  generalize l.getD 0 0 = x at *
  generalize hwdd : B.wd (dz l) = wd at *
  generalize H.bytes wd (dz l) = hbt at *
  generalize dz l = z at *
  obtain ⟨t1, ht1⟩ : ∃ t1, t1 = str (V.enc x) := ⟨_, rfl⟩
  obtain ⟨t2, ht2⟩ : ∃ t2, t2 = str [UInt8.ofNat wd] := ⟨_, rfl⟩
  obtain ⟨t3, ht3⟩ : ∃ t3, t3 = str hbt := ⟨_, rfl⟩
  have hs1 : t1.size ≤ 9 := by rw [ht1, str_size, V.enc_length]; exact V.sz_le _
  have hs2 : t2.size ≤ 1 := by rw [ht2, str_size]; simp
  have hs3 : t3.size ≤ 85983232 := by rw [ht3, str_size]; omega
  have hcat1 : ¬ 9223372036854775807 < t1.size + t2.size := by omega
  have hcat2 : ¬ 9223372036854775807 < t1.size + t2.size + t3.size := by omega
  have HSUM := Lib.hid (show t1 ++ t2 ++ t3 = str (V.enc x ++ [UInt8.ofNat wd] ++ hbt) by rw [ht1, ht2, ht3, str_append, str_append])
  have HVB := Lib.hid (fun W => show Calls Try.prog 35 #[.int .u64 (x : Int)] W (fun e w' => e = .returned (.string t1) ∧ Below W.heap.size W w') by rw [ht1]; exact vbytes_any x W hx0)
  have HOB := Lib.hid (fun W => show Calls Try.prog 46 #[.int .i64 (wd : Int)] W (fun e w' => e = .returned (.string t2) ∧ Below W.heap.size W w') by rw [ht2]; exact one_any wd W (by omega))
  have HHB := Lib.hid (fun A c' W h1 h2 h => show Calls Try.prog 47 #[.slice A z.length c', .int .i64 (wd : Int)] W (fun e w' => e = .returned (.string t3) ∧ Below W.heap.size W w') by rw [ht3]; exact hhb A c' W h1 h2 h)
  have HRZ := Lib.hid hrz
  have HWD := Lib.hid hwd
  have g0 : ((l.length : Int) == 0) = false := by rw [beq_eq_false_iff_ne]; omega
  have h0I : (0 : Int) < (l.length : Int) := by omega
  have c0' : w.cell? ⟨b, off, none⟩ = some (.int .u64 (x : Int)) := c0
  clear hrz hwd hhb hres hhd hbl hmul hzl hzx hzf hx hc ht1 ht2 ht3 hwdd hne c0
  go_enter Try.func26, Try.ntmps26
  go_wp2_with fail
  refine (HRZ.out).mono ?_
  rintro e w1 ⟨a1, c1, rfl, n1, hc1, hc2, hb1⟩
  have N1 := Lib.hid n1
  clear n1
  go_wp2_with fail
  refine (HWD.out _ _ _ _ N1.out).mono ?_
  rintro e w2 ⟨rfl, rfl⟩
  have k0 : w1.cell? ⟨b, off, none⟩ = some (.int .u64 (x : Int)) := (hb1.cell (p := ⟨b, off, none⟩) hb).trans c0'
  have hb1s : b < w1.heap.size := by have := hb1.size; omega
  have k1 : w1.cell? ⟨b, off + 0, none⟩ = some (.int .u64 (x : Int)) := k0
  go_wp2_with fail
  refine (HVB.out _).mono ?_
  rintro e w3 ⟨rfl, hb3⟩
  go_wp2_with fail
  refine (HOB.out _).mono ?_
  rintro e w4 ⟨rfl, hb4⟩
  go_wp2_with fail
  refine (HHB.out _ _ _ hc1 hc2 (N1.out.next (below_then hb3 hb4))).mono ?_
  rintro e w5 ⟨rfl, hb5⟩
  go_wp2_with fail
  go_ret
  exact ⟨by rw [← HSUM.out]; rfl, below_then hb1 (below_then (below_then hb3 hb4) hb5)⟩

set_option maxHeartbeats 400000 in
theorem rdbytes_nil (a : Option Addr) (c : Nat) (w : World) :
    Calls Try.prog 26 #[.slice a 0 c] w (TextPost [] w) := by
  go_enter Try.func26, Try.ntmps26
  go_wp2_with fail
  go_ret
  exact ⟨rfl, Below.refl _ _⟩

theorem rdbytes_any (a : Option Addr) (c : Nat) (l : List Nat) (w : World) (hl : l.length ≤ 1048576) (hx : ∀ x ∈ l, x < 18446744073709551616) (hu : Nums w w.heap.size a l) :
    Calls Try.prog 26 #[.slice a l.length c] w (TextPost (dbytes l) w) := by
  by_cases h : l = []
  · subst h; exact rdbytes_nil a c w
  · obtain ⟨b, off, rfl, hb, hc⟩ := hu h
    exact rdbytes_some b off c l w hl (by cases l with
      | nil => exact absurd rfl h
      | cons x t => simp) hx hb hc
end Go.Proofs.Ytpjmpbpbfjemdaa
