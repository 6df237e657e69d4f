/-
  What the program's fieldP, less, rest, plus and minus answer, by numbers of four parts of 64 bits. Conditions: numbers below 2 to the 256th (plus: their sum too; minus: numbers below p).
-/
import Derived.Test.YtghoibggmddkmaoSums
namespace Go.Proofs.Ytghoibggmddkmao
open Go.RowKit

theorem xor_all (b : Int) (h0 : 0 ≤ b) (h1 : b < 18446744073709551616) : bits .xor .u64 18446744073709551615 b = 18446744073709551615 - b := by
  obtain ⟨n, rfl⟩ : ∃ n : Nat, b = n := ⟨b.toNat, by omega⟩
  have h := bits_xor_u64_nat 18446744073709551615 n (by omega) (by omega)
  have e : 18446744073709551615 ^^^ n = 18446744073709551615 - n := by
    apply Nat.eq_of_testBit_eq
    intro i
    have h1 := Nat.testBit_two_pow_sub_one 64 i
    have h2 := Nat.testBit_two_pow_sub_succ (n := 64) (x := n) (by omega) i
    have e1 : (2 : Nat) ^ 64 - 1 = 18446744073709551615 := by decide
    have e2 : (2 : Nat) ^ 64 - (n + 1) = 18446744073709551615 - n := by omega
    rw [e1] at h1
    rw [e2] at h2
    rw [Nat.testBit_xor, h1, h2]
    by_cases hi : i < 64
    · simp [hi]
    · have : n.testBit i = false := Nat.testBit_lt_two_pow (Nat.lt_of_lt_of_le (show n < 2 ^ 64 by omega) (Nat.pow_le_pow_right (by omega) (by omega)))
      simp [hi, this]
  rw [e] at h
  refine Eq.trans h ?_
  omega
def mixU (d f : Nat → Int) (k i : Nat) : Int := if i < k then d i else f i
theorem mixU_at (d f : Nat → Int) (k : Nat) : mixU d f k k = f k := by rw [mixU, if_neg (by omega)]
theorem mixU_zero (d f : Nat → Int) (i : Nat) : mixU d f 0 i = f i := by rw [mixU, if_neg (by omega)]
theorem mixU_end (d f : Nat → Int) {n i : Nat} (h : i < n) : mixU d f n i = d i := by rw [mixU, if_pos h]
theorem mixU_step (d f : Nat → Int) (k i : Nat) : (if i = k then d k else mixU d f k i) = mixU d f (k + 1) i := by
  unfold mixU
  by_cases h : i = k
  · subst h; rw [if_pos rfl, if_pos (by omega)]
  · rw [if_neg h]
    by_cases h2 : i < k
    · rw [if_pos h2, if_pos (by omega)]
    · rw [if_neg h2, if_neg (by omega)]
/-- Three rows of four parts, made one behind the other. -/
theorem rows3 (w : World) (f g h : Nat → Int) {A B Z : Array Value} (hA : A = (uV f 4).toArray) (hB : B = (uV g 4).toArray) (hZ : Z = (uV h 4).toArray) :
    RowU 38 4 (((w.alloc (.cells A 38)).alloc (.cells B 38)).alloc (.cells Z 38)) w.heap.size w.heap.size f ∧ RowU 38 4 (((w.alloc (.cells A 38)).alloc (.cells B 38)).alloc (.cells Z 38)) w.heap.size (w.heap.size + 1) g ∧ RowU 38 4 (((w.alloc (.cells A 38)).alloc (.cells B 38)).alloc (.cells Z 38)) w.heap.size (w.heap.size + 1 + 1) h ∧ Below w.heap.size w (((w.alloc (.cells A 38)).alloc (.cells B 38)).alloc (.cells Z 38)) ∧ (((w.alloc (.cells A 38)).alloc (.cells B 38)).alloc (.cells Z 38)).heap.size = w.heap.size + 1 + 1 + 1 := by
  subst hA hB hZ
  have m0 := RowU.made w 38 4 w.heap.size f (by decide) (Nat.le_refl _)
  obtain ⟨wa, hwa⟩ : ∃ wa, wa = w.alloc (.cells (uV f 4).toArray 38) := ⟨_, rfl⟩
  rw [← hwa] at m0 ⊢
  have sa : wa.heap.size = w.heap.size + 1 := by rw [hwa]; simp
  have ba : Below w.heap.size w wa := by rw [hwa]; exact (Below.refl _ _).alloc (Nat.le_refl _) _
  have m1 := RowU.made wa 38 4 w.heap.size g (by decide) (by omega)
  have b1 : Below wa.heap.size wa (wa.alloc (.cells (uV g 4).toArray 38)) := (Below.refl _ _).alloc (Nat.le_refl _) _
  rw [sa] at m1
  obtain ⟨wb, hwb⟩ : ∃ wb, wb = wa.alloc (.cells (uV g 4).toArray 38) := ⟨_, rfl⟩
  rw [← hwb] at m1 b1 ⊢
  have sb : wb.heap.size = w.heap.size + 1 + 1 := by rw [hwb]; simp [sa]
  have m2 := RowU.made wb 38 4 w.heap.size h (by decide) (by omega)
  have b2 : Below wb.heap.size wb (wb.alloc (.cells (uV h 4).toArray 38)) := (Below.refl _ _).alloc (Nat.le_refl _) _
  rw [sb] at m2
  exact ⟨(m0.below b1).below b2, m1.below b2, m2, below_on (below_on ba b1) b2, by simp [sb]⟩
theorem overRow (wb : World) (lo : Nat) (c : Int) (h : lo ≤ wb.heap.size) : RowU 36 1 (wb.alloc (.cells #[.int .u64 c] 36)) lo wb.heap.size (fun _ => c) ∧ Below wb.heap.size wb (wb.alloc (.cells #[.int .u64 c] 36)) :=
  ⟨RowU.made wb 36 1 lo (fun _ => c) (by decide) h, (Below.refl _ _).alloc (Nat.le_refl _) _⟩
theorem RowU.one {w : World} {lo g : Nat} {c : Int} (h : RowU 36 1 w lo g (fun _ => c)) (o : Int) : RowU 36 1 (w.setCell ⟨g, 0, none⟩ (.int .u64 o)) lo g (fun _ => o) ∧ w.grownBy (w.setCell ⟨g, 0, none⟩ (.int .u64 o)) (some g) :=
  ⟨(h.set 0 o).1.congr fun i hi => by rw [if_pos (by omega)], (h.set 0 o).2⟩
theorem RowU.drew {ty n : Nat} {w : World} {lo g : Nat} {f : Nat → Int} (h : RowU ty n w lo g f) : RowU ty n w.drew lo g f := h.below (Below.refl _ _).drew
theorem sizeU {f : Nat → Int} : (Try.prog.info? 38).map (·.size) = some (uV f 4).length := by rw [uV_length]; exact (zero_of_info infoU4).2
theorem sizeU2 {f : Nat → Int} : (Try.prog.info? 38).map (·.size) = some (uV f 4).toArray.size := by
  have : (uV f 4).toArray.size = 4 := by simp [uV_length]
  rw [this]; exact (zero_of_info infoU4).2
theorem RowU.there2 {ty : Nat} {w : World} {lo g : Nat} {f f' : Nat → Int} (h : RowU ty 4 w lo g f) : w.there g 0 (uV f' 4).toArray.size := by
  have : (uV f' 4).toArray.size = 4 := by simp [uV_length]
  rw [this]; exact h.there
theorem uV_like {f g : Nat → Int} (h : ∀ i, i < 4 → f i = g i) : uV f 4 = uV g 4 := uV_congr h

/-- The number that lies in a block. -/
def numRow (w : World) (g : Nat) : Int := valU (fun i => match w.cell? ⟨g, i, none⟩ with | some (.int _ v) => v | _ => 0) 4
theorem RowU.num {ty : Nat} {w : World} {lo g : Nat} {f : Nat → Int} (h : RowU ty 4 w lo g f) : numRow w g = valU f 4 := valU_congr fun i hi => by rw [h.cell i hi]
/-- Two operations may come up now. -/
theorem anyT_two {P : Program} {ops : Array Oper} {Q : Exit → Act → World → Prop} {T S : World → Prop} {m : Nat} {i j : Nat} {o o' : Oper} {fuel : Nat} {listed : Array Bool} {a : Act} {w : World} (hr : Region.ready .any ops listed = [i, j]) (ho : ops[i]? = some o) (ho' : ops[j]? = some o')
    (h : ∀ K' : Act → World → Prop, Shut (∀ a w, T w → ((listed.setIfInBounds i true).getD m true = false → S w) → AnyT P ops Q T S m fuel (listed.setIfInBounds i true) a w → K' a w) → if Region.wanted o (yielded ops a.tmps) = true then Oper.wp P o a w K' Q else K' (a.put o.dst undef) w)
    (h' : ∀ K' : Act → World → Prop, Shut (∀ a w, T w → ((listed.setIfInBounds j true).getD m true = false → S w) → AnyT P ops Q T S m fuel (listed.setIfInBounds j true) a w → K' a w) → if Region.wanted o' (yielded ops a.tmps) = true then Oper.wp P o' a w K' Q else K' (a.put o'.dst undef) w) :
    AnyT P ops Q T S m (fuel + 1) listed a w := by
  refine ⟨fun e => absurd (hr.symm.trans e) (by simp), fun q hq => ?_⟩
  rw [hr, List.mem_cons, List.mem_singleton] at hq
  rcases hq with rfl | rfl
  · exact wpOp_step ho (fun K' hK => h K' (fun a w h0 h1 h2 => hK a w ⟨h0, h1, h2⟩))
  · exact wpOp_step ho' (fun K' hK => h' K' (fun a w h0 h1 h2 => hK a w ⟨h0, h1, h2⟩))

/-- Four rows: n, which is written, m, the result, and the word that goes over. -/
structure SumI (w : World) (lo Gn Gm Gr Go : Nat) (fn fm fr : Nat → Int) (c : Int) (wr : World) : Prop where
  n : RowU 38 4 wr lo Gn fn
  m : RowU 38 4 wr lo Gm fm
  r : RowU 38 4 wr lo Gr fr
  o : RowU 36 1 wr lo Go (fun _ => c)
  b : Below lo w wr
structure Apart4 (Gn Gm Gr Go : Nat) : Prop where
  nm : Gm ≠ Gn
  nr : Gr ≠ Gn
  no : Go ≠ Gn
  mo : Gm ≠ Go
  ro : Gr ≠ Go
  on : Gn ≠ Go
section
variable {w wr : World} {lo Gn Gm Gr Go : Nat} {fn fm fr : Nat → Int} {c : Int}
theorem SumI.drew (h : SumI w lo Gn Gm Gr Go fn fm fr c wr) : SumI w lo Gn Gm Gr Go fn fm fr c wr.drew := ⟨h.n.drew, h.m.drew, h.r.drew, h.o.drew, h.b.drew⟩
theorem SumI.tell (h : SumI w lo Gn Gm Gr Go fn fm fr c wr) (d : Apart4 Gn Gm Gr Go) (o : Int) : SumI w lo Gn Gm Gr Go fn fm fr o (wr.setCell ⟨Go, 0, none⟩ (.int .u64 o)) := by
  have st := h.o.one o
  exact ⟨h.n.kept st.2 d.on, h.m.kept st.2 d.mo, h.r.kept st.2 d.ro, st.1, h.b.grown st.2 (Nat.le_trans h.o.lt.1 (Nat.le_of_lt h.o.lt.2)) (fun k hk => by cases hk; exact h.o.lt.1)⟩
theorem SumI.store (h : SumI w lo Gn Gm Gr Go fn fm fr c wr) (d : Apart4 Gn Gm Gr Go) (k : Nat) (v : Int) : SumI w lo Gn Gm Gr Go (fun i => if i = k then v else fn i) fm fr c (wr.setCell ⟨Gn, k, none⟩ (.int .u64 v)) := by
  have st := h.n.set k v
  exact ⟨st.1, h.m.kept st.2 d.nm, h.r.kept st.2 d.nr, h.o.kept st.2 d.no, h.b.grown st.2 (Nat.le_trans h.o.lt.1 (Nat.le_of_lt h.o.lt.2)) (fun k hk => by cases hk; exact h.n.lt.1)⟩
theorem SumI.congr {f' : Nat → Int} (h : SumI w lo Gn Gm Gr Go fn fm fr c wr) (he : ∀ i, i < 4 → fn i = f' i) : SumI w lo Gn Gm Gr Go f' fm fr c wr := ⟨h.n.congr he, h.m, h.r, h.o, h.b⟩
end

theorem wpList_build_run {P : Program} {ops : Array Oper} {rest : List Oper} {o : Oper} {a : Act} {w : World} {Q : Exit → Act → World → Prop} (hgd : o.guard = none) (t : TypeId) (parts : Array (Nat × Operand)) (ho : o.op = .build t parts)
    (vs : Array (Nat × Value)) (hvs : (parts.map fun (i, x) => (i, a.eval x)) = vs) {v : Value} (hr : (Instr.build t vs).run P w = .ok v w) (h : wpList P ops Q rest (a.put o.dst v) w) : wpList P ops Q (o :: rest) a w :=
  wpList_plain hgd fun _ hK => by
    unfold Oper.wp execOp
    subst hvs
    simp only [ho, Sem.run_bind, Sem.run_pure, Result.andThen_ok, hr]
    exact hK _ _ h

set_option maxRecDepth 100000 in
set_option maxHeartbeats 2000000 in
theorem fieldP_any (w : World) : Calls Try.prog 48 #[] w fun e w' => e = .returned (uP fldP) ∧ Below w.heap.size w w' := by
  have hz := (zero_of_info infoU4).1
  have hbd : ∀ w, (Instr.build 38 #[(0, .int .u64 18446744073709551597), (1, .int .u64 18446744073709551615), (2, .int .u64 18446744073709551615), (3, .int .u64 9223372036854775807)]).run Try.prog w = .ok (.agg (uV (numU fldP) 4).toArray) w := fun w => run_build w 38 _ _ (by kernel_rfl)
  have m0 := RowU.made w 38 4 w.heap.size (fun _ => 0) (by decide) (Nat.le_refl _)
  have ba : Below w.heap.size w (w.alloc (.cells (uV (fun _ => 0) 4).toArray 38)) := (Below.refl _ _).alloc (Nat.le_refl _) _
  obtain ⟨Z, hZ⟩ : ∃ Z, Z = (uV (fun _ => 0) 4).toArray := ⟨_, rfl⟩
  rw [← hZ] at hz m0 ba
  unfold uP
  clear hZ
  have hp := m0.put (f' := numU fldP)
  have hth2 := m0.there2 (f' := numU fldP)
  have hbel := Below.grown ba hp.2 (Below.size ba) (fun k hk => by cases hk; exact Nat.le_refl _)
  have hld := run_loadVar_mid (P := Try.prog) _ w.heap.size 0 38 _ _ hp.1.range Try.underlying38 rfl sizeU
  have hone := uV_one (numU fldP) 4
  have hsz2 := sizeU2 (f := numU fldP)
  obtain ⟨Cs, hCs⟩ : ∃ Cs, Cs = uV (numU fldP) 4 := ⟨_, rfl⟩
  rw [← hCs] at hsz2 hth2 hbel hld hone hbd
  replace hCs : Hid (Cs = uV (numU fldP) 4) := hCs
  clear hp
  go_enter Try.func48, Try.ntmps48
  go_wp2_with (first | (refine wpList_build_run rfl 38 #[(0, .const (.int .u64 18446744073709551597)), (1, .const (.int .u64 18446744073709551615)), (2, .const (.int .u64 18446744073709551615)), (3, .const (.int .u64 9223372036854775807))] rfl #[(0, .int .u64 18446744073709551597), (1, .int .u64 18446744073709551615), (2, .int .u64 18446744073709551615), (3, .int .u64 9223372036854775807)] (by simp [Act.eval]) (hbd _) ?_) | (refine wpList_store_mid rfl 38 _ _ rfl w.heap.size 0 Cs.toArray rfl rfl hth2 hsz2 (all_oneCell_toArray hone) ?_))
  (try simp only [Exit.inBlock, Exit.then])
  refine bodyPost_ret (v := .agg Cs.toArray) ?_ rfl ⟨by rw [hCs.out], hbel⟩
  simp [results, asAddr, Act.put, hld]

end Go.Proofs.Ytghoibggmddkmao
