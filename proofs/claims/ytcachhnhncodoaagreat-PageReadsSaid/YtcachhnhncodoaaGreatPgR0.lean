/- The walks of SealedOf, numbersOf, wordsOf. -/
import Derived.Test.YtcachhnhncodoaaGreatPgW8
import Derived.Test.YtcachhnhncodoaaGreatPgLen
import Derived.Test.YtcachhnhncodoaaGreatP10
namespace Go.Proofs.YtcachhnhncodoaaGreat
open Go.RowKit
set_option linter.unusedVariables false

theorem numRow_cap_ {B : Nat} {xs : List Nat} {v : Value} {w : World} (h : NumRow B xs v w) : ∃ a c, v = .slice a xs.length c ∧ Nums w w.heap.size a xs ∧ xs.length ≤ c ∧ c ≤ maxLen := by
  unfold NumRow at h
  rcases h.2 with ⟨rfl, h0⟩ | ⟨g, cap, cur, rfl, e2, e3, e4, e5, e6⟩
  · refine ⟨none, 0, by rw [h0], ?_, by omega, by unfold maxLen; omega⟩
    rw [List.eq_nil_of_length_eq_zero h0]; exact Nums.nil _ _ _
  · refine ⟨some ⟨g, 0, none⟩, cap, rfl, fun _ => ⟨g, 0, rfl, lt_of_block e3, fun i hi => ?_⟩, e4, e5⟩
    rw [Nat.zero_add, h.cellAt i (by omega)]
    simp [nv, List.getElem?_eq_getElem hi]

set_option maxHeartbeats 400000 in
set_option maxRecDepth 100000 in
theorem sealed_any (b : List UInt8) (w : World) (hb : b.length ≤ 1048576) :
    Calls Tryz.prog 24 #[.string (str b)] w (TextPost (Pg.sealB b) w) := by
  have HW := Lib.hid (fun W => vbytes_any b.length W (by omega))
  have HA := Lib.hid (fun W => show Calls Tryz.prog 54 #[.int .u32 1, .string (str b)] W fun e w' => e = .returned (.int .u32 (Ad.of b : Nat)) ∧ W = w' from adlerOf_any 1 b W (by omega) (by omega))
  have hof := Ad.of_lt b
  have HF := Lib.hid (fun W => big_any (Ad.of b) 4 W (by omega) (by omega))
  have HR := Lib.hid (show str (V.enc b.length) ++ str b ++ str (V.be 4 (Ad.of b)) = str (Pg.sealB b) by
    rw [str_append, str_append]; unfold Pg.sealB; rw [List.append_assoc])
  have hsz := str_size b
  have hz1 : (str (V.enc b.length)).size ≤ 9 := by rw [str_size, V.enc_length]; exact V.sz_le _
  have hz2 : (str (V.be 4 (Ad.of b))).size = 4 := by rw [str_size, V.be_length]
  have hwl : IntKind.u64.wrap (b.length : Int) = (b.length : Int) := by rw [IntKind.wrap_u64]; omega
  have hwa : IntKind.u64.wrap (Ad.of b : Int) = (Ad.of b : Int) := by rw [IntKind.wrap_u64]; omega
  unfold TextPost at HW HF ⊢
  generalize str (V.enc b.length) = X at *
  generalize str (V.be 4 (Ad.of b)) = Z at *
  generalize Ad.of b = m at *
  rw [← HR.out]
  generalize str b = S at *
  generalize b.length = n at *
  clear HR
  go_enter Tryz.func24, Tryz.ntmps24
  go_wp2_with fail
  refine (HW.out _).mono ?_
  rintro e w1 ⟨rfl, hb1⟩
  go_wp2_with fail
  refine (HA.out _).mono ?_
  rintro e w2 ⟨rfl, rfl⟩
  go_wp2_with fail
  refine (HF.out _).mono ?_
  rintro e w3 ⟨rfl, hb3⟩
  go_wp2_with fail
  go_ret
  exact ⟨rfl, below_then hb1 hb3⟩

set_option maxHeartbeats 400000 in
set_option maxRecDepth 100000 in
theorem numbersOf_any (a : Option Addr) (c : Nat) (l : List C.Cl) (w : World) (hl : l.length ≤ 64) (hu : Cls w w.heap.size a l) :
    Calls Tryz.prog 39 #[.slice a l.length c] w fun e w' => ∃ v, e = .returned v ∧ NumRow w.heap.size (l.map (·.num)) v w' ∧ Below w.heap.size w w' := by
  have HU := Lib.hid hu
  have HST := Lib.hid (fun j (h : j < l.length) => show (l.take (j + 1)).map (fun x : C.Cl => x.num) = (l.take j).map (fun x : C.Cl => x.num) ++ [(l.getD j C.null).num] by rw [ctake_succ l j h, List.map_append]; rfl)
  have HLN := Lib.hid (fun j => show ((l.take j).map (fun x : C.Cl => x.num)).length ≤ 64 by rw [List.length_map, List.length_take]; omega)
  have HALL := Lib.hid (show (l.take l.length).map (fun x : C.Cl => x.num) = l.map (fun x : C.Cl => x.num) by rw [List.take_length])
  clear hu
  go_enter Tryz.func39, Tryz.ntmps39
  go_wp2_with fail
  go_loopw [3, 4] (fun v i wr => ∃ k : Nat, k ≤ l.length ∧ i = .int .i64 k ∧ NumRow w.heap.size ((l.take k).map (fun x : C.Cl => x.num)) v wr ∧ Below w.heap.size w wr) (fun _ i _ => l.length - (intOf i).toNat)
  case atStart => exact ⟨0, by omega, rfl, ⟨rfl, Or.inl ⟨rfl, rfl⟩⟩, Below.refl _ _⟩
  case round =>
    obtain ⟨k, hk, rfl, hrow, hbw⟩ := hrel
    by_cases hlt : k < l.length
    · obtain ⟨b, off, rfl, hb, hcc⟩ := HU.out (fun e => by rw [e] at hlt; simp at hlt)
      obtain ⟨k0, k1, k2⟩ := hcc k hlt
      have c1 := (hbw.cell (p := ⟨b, off + k * 3 + 1, none⟩) hb).trans k1
      have HS := Lib.hid (HST.out k hlt)
      have hln := HLN.out k
      generalize (l.take k).map (fun x : C.Cl => x.num) = xs at *
      generalize (l.getD k C.null).num = n at *
      have HROW := Lib.hid hrow
      have hxl : (xs.length + 1) * 8 ≤ 140737488355328 := by omega
      have hkI : (k : Int) < (l.length : Int) := by omega
      have hb5 : w.heap.size ≤ (wr.alloc (.cells #[.int .u64 (n : Int)] 34)).heap.size := by have := hbw.size; simp; omega
      clear hrow k0 k1 k2 hcc hln
      go_wp2_with (at_builtin; refine wpList_append_one rfl (.tmp 11) (.tmp 17) rfl w.heap.size _ xs.length _ rfl (HROW.out.alloc _) wr.heap.size n rfl (World.cell?_alloc_new _ _ _ _) hxl hb5 ?_)
      intro v' w2 hown2 hgrow2
      go_wp2_with fail
      have hbw2 : Below w.heap.size w w2 := (hbw.alloc hbw.size _).grown hgrow2 (by have := hbw.size; simp; omega) (fun k hk => (HROW.out.lt k hk).1)
      refine ⟨⟨k + 1, by omega, by go_num, ?_, hbw2⟩, by simp [intOf]; omega⟩
      rw [HS.out]; unfold NumRow; simpa [nv] using hown2
    · obtain rfl : k = l.length := by omega
      rw [HALL.out] at hrow
      go_wp2_with fail
      go_ret
      exact ⟨_, rfl, hrow, hbw⟩

set_option maxHeartbeats 400000 in
set_option maxRecDepth 100000 in
theorem wordsOf_any (a : Option Addr) (c : Nat) (l : List C.Cl) (w : World) (hl : l.length ≤ 64) (hu : Cls w w.heap.size a l) :
    Calls Tryz.prog 41 #[.slice a l.length c] w fun e w' => ∃ v, e = .returned v ∧ TRow w.heap.size (l.map (·.txt)) v w' ∧ Below w.heap.size w w' := by
  have HU := Lib.hid hu
  have HST := Lib.hid (fun j (h : j < l.length) => show (l.take (j + 1)).map (fun x : C.Cl => x.txt) = (l.take j).map (fun x : C.Cl => x.txt) ++ [(l.getD j C.null).txt] by rw [ctake_succ l j h, List.map_append]; rfl)
  have HLN := Lib.hid (fun j => show ((l.take j).map (fun x : C.Cl => x.txt)).length ≤ 64 by rw [List.length_map, List.length_take]; omega)
  have HALL := Lib.hid (show (l.take l.length).map (fun x : C.Cl => x.txt) = l.map (fun x : C.Cl => x.txt) by rw [List.take_length])
  clear hu
  go_enter Tryz.func41, Tryz.ntmps41
  go_wp2_with fail
  go_loopw [3, 4] (fun v i wr => ∃ k : Nat, k ≤ l.length ∧ i = .int .i64 k ∧ TRow w.heap.size ((l.take k).map (fun x : C.Cl => x.txt)) v wr ∧ Below w.heap.size w wr) (fun _ i _ => l.length - (intOf i).toNat)
  case atStart => exact ⟨0, by omega, rfl, tnilRow _ _, Below.refl _ _⟩
  case round =>
    obtain ⟨k, hk, rfl, hrow, hbw⟩ := hrel
    by_cases hlt : k < l.length
    · obtain ⟨b, off, rfl, hb, hcc⟩ := HU.out (fun e => by rw [e] at hlt; simp at hlt)
      obtain ⟨k0, k1, k2⟩ := hcc k hlt
      have c1 := (hbw.cell (p := ⟨b, off + k * 3 + 2, none⟩) hb).trans k2
      have HS := Lib.hid (HST.out k hlt)
      have hln := HLN.out k
      generalize (l.take k).map (fun x : C.Cl => x.txt) = xs at *
      generalize (l.getD k C.null).txt = n at *
      have HROW := Lib.hid hrow
      have hxl : (xs.length + 1) * 16 ≤ 140737488355328 := by omega
      have hkI : (k : Int) < (l.length : Int) := by omega
      have hb5 : w.heap.size ≤ (wr.alloc (.cells #[.string (str n)] 9)).heap.size := by have := hbw.size; simp; omega
      clear hrow k0 k1 k2 hcc hln
      go_wp2_with (at_builtin; refine wpList_append_onet rfl (.tmp 11) (.tmp 17) rfl w.heap.size _ xs rfl (HROW.out.alloc_ _) wr.heap.size n rfl (World.cell?_alloc_new _ _ _ _) hxl hb5 ?_)
      intro v' w2 hown2 hbb2
      go_wp2_with fail
      refine ⟨⟨k + 1, by omega, by go_num, ?_, (hbw.alloc hbw.size _).trans hbb2⟩, by simp [intOf]; omega⟩
      rw [HS.out]; exact hown2
    · obtain rfl : k = l.length := by omega
      rw [HALL.out] at hrow
      go_wp2_with fail
      go_ret
      exact ⟨_, rfl, hrow, hbw⟩

end Go.Proofs.YtcachhnhncodoaaGreat
