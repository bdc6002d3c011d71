/- The walk of hypostyleref.kidsOf. -/
import Derived.Deep.AppendLies
import Derived.Test.YtjfkoledbegpfaaShR2
import Derived.Test.YtjfkoledbegpfaaShSd
namespace Go.Proofs.Ytjfkoledbegpfaa
open Go.RowKit
set_option linter.unusedVariables false

theorem info_fds : (Try.prog.info? 22).map (fun i => (i.zero, i.size, i.bytes)) = some (some (.slice none 0 0), 1, 24) := by kernel_rfl
theorem wpList_append_fds {w : World} {ops : Array Oper} {rest : List Oper} {o : Oper} {a : Act} {Q : Exit → Act → World → Prop} (hgd : o.guard = none) (s x : Operand)
    (ho : o.op = .call { callee := .builtin .append, args := #[s, x], argTypes := #[82, 82] }) (base : Nat)
    (v : Value) (n : Nat) (xs : List Value) (hs : a.eval s = v) (hown : w.ownsRow base 22 1 v n xs)
    (g : Nat) (y : Value) (hy : y.oneCell' = true) (hx : a.eval x = .slice (some ⟨g, 0, none⟩) 1 1) (hblk : w.heap[g]? = some (.cells #[y] 22 (0, 0)))
    (hbytes : (n + 1) * 24 ≤ 140737488355328) (hbase : base ≤ w.heap.size)
    (h : ∀ A' cp w', w'.ownsRow base 22 1 (.slice A' (n + 1) cp) (n + 1) (xs ++ [y]) → Below base w w' → wpList Try.prog ops Q rest (a.put o.dst (.slice A' (n + 1) cp)) w') : wpList Try.prog ops Q (o :: rest) a w := by
  obtain ⟨i, hi, hz0, hz1, hz2⟩ := info_parts info_fds
  refine wpList_append_lies w hgd s x 82 ho base 22 i (.slice none 0 0) 1 24 Try.underlying82 hi hz0 hz1 hz2 rfl (by decide) v n xs hs hown ⟨g, 0, none⟩ 1 1 [y] hx rfl (World.news_of_block hblk) ?_ (by decide) (by unfold maxLen; omega) hbytes hbase _ rfl ?_
  · intro u hu; rw [List.mem_singleton.1 hu]; exact hy
  · intro g' cap w' h1 h2 h3 h4
    exact h _ cap w' h1 ((Below.refl base w).grown h2 hbase (fun k hk => (hown.lt k hk).1))

/-- the kids' slices of a form's slice -/
def kidV (b off cap : Nat) : Sh.F → Nat → List Value
  | .nil, _ => []
  | .cons r k s, p => .slice (some ⟨b, off + p * 2, none⟩) (1 + Sh.size k) (cap - p) :: kidV b off cap s (p + 1 + Sh.size k)
theorem kidV_length (b off cap : Nat) : ∀ (f : Sh.F) (p : Nat), (kidV b off cap f p).length = Sh.len f
  | .nil, _ => rfl
  | .cons r k s, p => by simp only [kidV, Sh.len, List.length_cons, kidV_length]; omega

def KidsPost (w : World) (b off cap : Nat) (k : Sh.F) (e : Ending) (w' : World) : Prop :=
  ∃ A cp, e = .returned (.slice A (Sh.len k) cp) ∧ w'.ownsRow w.heap.size 22 1 (.slice A (Sh.len k) cp) (Sh.len k) (kidV b off cap k 1) ∧ Below w.heap.size w w'

set_option maxHeartbeats 2000000 in
set_option maxRecDepth 100000 in
theorem kids_any (r : Nat) (k : Sh.F) (b off cap B : Nat) (w : World) (hu : Fds w B (some ⟨b, off, none⟩) (Sh.flat (.cons r k .nil))) (hB : B ≤ w.heap.size) (hL : 1 + Sh.size k ≤ 1000) (hc : 1 + Sh.size k ≤ cap) (hcm : cap ≤ maxLen) :
    Calls Try.prog 43 #[.slice (some ⟨b, off, none⟩) (1 + Sh.size k) cap] w (KidsPost w b off cap k) := by
  obtain ⟨l, hl⟩ : ∃ l, l = Sh.flat (.cons r k .nil) := ⟨_, rfl⟩
  have hll : l.length = 1 + Sh.size k := by rw [hl, Sh.flat_length]; rfl
  rw [← hl] at hu
  have HU := Lib.hid (fun W (hb : Below w.heap.size w W) => show Fds W B (some ⟨b, off, none⟩) l from hu.below (hb.mono hB))
  have hl2 : l = ((r : Int), (Sh.len k : Int)) :: (Sh.flat k ++ []) := by rw [hl]; rfl
  have HLL := Lib.hid hll
  obtain ⟨bb, oo, e0, hbl, hcell⟩ := hu (by rw [hl2]; simp)
  obtain ⟨rfl, rfl⟩ : b = bb ∧ off = oo := by cases e0; exact ⟨rfl, rfl⟩
  have h0 := (hcell 0 (by omega)).2
  rw [show l.getD 0 Sh.fd0 = ((r : Int), (Sh.len k : Int)) by rw [hl2]; rfl, Nat.zero_mul, Nat.add_zero] at h0
  have HC1 := Lib.hid (fun W (hb : Below w.heap.size w W) => show W.cell? ⟨b, off + 1, none⟩ = some (.int .i64 (Sh.len k : Nat)) from (hb.cell (p := ⟨b, off + 1, none⟩) (show b < w.heap.size by omega)).trans h0)
  have HD := Lib.hid (show l.drop 1 = Sh.flat k ++ [] by rw [hl2]; rfl)
  have hkl := Sh.len_le k
  obtain ⟨L, hLe⟩ : ∃ L, L = 1 + Sh.size k := ⟨_, rfl⟩
  rw [← hLe] at hL hc HLL ⊢
  have HLE := Lib.hid hLe
  obtain ⟨m, hm⟩ : ∃ m, m = Sh.len k := ⟨_, rfl⟩
  rw [← hm] at HC1 hkl
  have HM := Lib.hid hm
  have hcm2 := hcm
  unfold maxLen at hcm2
  have hm1 : m < 1000 := by omega
  have hL1 : 1 ≤ L := by omega
  clear hu hl hll hl2 e0 hbl hcell h0 hm hkl hLe
  go_enter Try.func43, Try.ntmps43
  go_wp2_with fail
  go_loopw [3, 4, 5, 6] (fun v q i _ wr => ∃ (j p : Nat) (s : Sh.F) (A : Option Addr) (cp : Nat) (vs : List Value), j + Sh.len s = m ∧ i = .int .i64 j ∧ q = .int .i64 p ∧ v = .slice A j cp ∧ p + Sh.size s = L ∧ Hid (l.drop p = Sh.flat s ++ []) ∧
    wr.ownsRow w.heap.size 22 1 (.slice A j cp) j vs ∧ Below w.heap.size w wr ∧ Hid (vs ++ kidV b off cap s p = kidV b off cap k 1)) (fun _ _ i _ _ => m - (intOf i).toNat)
  case atStart => exact ⟨0, 1, k, none, 0, [], by rw [HM.out, Nat.zero_add], rfl, rfl, rfl, HLE.out.symm, HD, World.ownsRow_nil _ _ _ _, Below.refl _ _, Lib.hid rfl⟩
  case round =>
    obtain ⟨j, p, s, A, cp, vs, hjs, rfl, rfl, rfl, hps, HDS, hown, hbw, HV⟩ := hrel
    rename World => wr
    have c1 := HC1.out wr hbw
    match s, hjs, hps, HDS, HV with
    | .nil, hjs, hps, HDS, HV =>
      simp only [Sh.len, Nat.add_zero] at hjs
      subst hjs
      have hjI : ¬ (j : Int) < (j : Int) := by omega
      have hfin : vs = kidV b off cap k 1 := by have := HV.out; rwa [show kidV b off cap .nil p = [] from rfl, List.append_nil] at this
      have HFIN := Lib.hid hfin
      have HOWN := Lib.hid hown
      clear hfin hown
      go_wp2_with fail
      go_ret
      unfold KidsPost
      rw [← HM.out]
      exact ⟨A, cp, rfl, by rw [← HFIN.out]; exact HOWN.out, hbw⟩
    | .cons r' k' s', hjs, hps, HDS, HV =>
      simp only [Sh.len] at hjs
      simp only [Sh.size] at hps
      have hjI : (j : Int) < (m : Int) := by omega
      have HSK := Lib.hid (skip_any (some ⟨b, off, none⟩) cap l wr B (by rw [HLL.out]; omega) (HU.out wr hbw) (Sh.size k' + 1) r' k' p (Sh.flat s' ++ []) (Nat.lt_succ_self _) (by rw [HDS.out]; simp [Sh.flat]))
      rw [HLL.out] at HSK
      have HN := Lib.hid (show l.drop (p + 1 + Sh.size k') = Sh.flat s' ++ [] by
        have h1 : l.drop p = (((r' : Int), (Sh.len k' : Int)) :: Sh.flat k') ++ (Sh.flat s' ++ []) := by rw [HDS.out]; simp [Sh.flat]
        have h2 := drop_more h1
        rw [List.length_cons, Sh.flat_length] at h2
        rw [← h2]; congr 1; omega)
      have HOWN := Lib.hid hown
      have HV2 := Lib.hid (show (vs ++ [.slice (some ⟨b, off + p * 2, none⟩) (1 + Sh.size k') (cap - p)]) ++ kidV b off cap s' (p + 1 + Sh.size k') = kidV b off cap k 1 by rw [List.append_assoc]; exact HV.out)
      obtain ⟨E, hE⟩ : ∃ E, E = p + 1 + Sh.size k' := ⟨_, rfl⟩
      rw [← hE] at HSK HN HV2
      rw [show 1 + Sh.size k' = E - p by omega] at HV2
      have hpE : p ≤ E := by omega
      have hEL : E ≤ L := by omega
      have hEc : E ≤ cap := by omega
      have hpc : p ≤ cap := by omega
      have hpn : ¬ cap = p := by omega
      have HE := Lib.hid hE
      clear hown hE
      go_wp2_with fail
      refine (HSK.out).mono ?_
      rintro e w1 ⟨rfl, rfl⟩
      have hby : (j + 1) * 24 ≤ 140737488355328 := by omega
      have HOA := Lib.hid (fun o => row_below HOWN.out ((Below.refl wr.heap.size wr).alloc (Nat.le_refl _) o))
      have HBA := Lib.hid (fun o => hbw.alloc hbw.size o)
      go_wp2_with (at_builtin; refine wpList_append_fds (by rfl) (.tmp 18) (.tmp 23) (by rfl) w.heap.size _ j vs (by rfl) (HOA.out _) wr.heap.size _ ?_ (by rfl) (heap_alloc_new _ _) hby (HBA.out _).size ?_; rfl; intro A9 cp9 w9 hown9 hb9)
      have hB9 := (HBA.out (.cells #[.slice (some ⟨b, off + p * 2, none⟩) (E - p) (cap - p)] 22)).trans hb9
      exact ⟨⟨j + 1, E, s', A9, cp9, _, by omega, by go_num, rfl, rfl, by have := HE.out; omega, HN, hown9, hB9, HV2⟩, by simp [intOf]; omega⟩
end Go.Proofs.Ytjfkoledbegpfaa
