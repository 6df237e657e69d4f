/-
  A part of the proof.
-/
import Derived.Test.YthjapmdikbmmkaaDoorParz21
import Derived.Test.YthjapmdikbmmkaaDoorParz25
import Derived.Test.YthjapmdikbmmkaaDoorParz18
import Derived.ArgAppend
import Derived.Laws.CopyOwn
import Derived.Test.YthjapmdikbmmkaaDoorParz09
import Derived.KernelRfl
import Derived.Test.YthjapmdikbmmkaaDoorParz22
import Derived.Test.YthjapmdikbmmkaaDoorParz10
import Derived.Test.YthjapmdikbmmkaaDoorParz15
import Derived.Test.YthjapmdikbmmkaaDoorParz12
import Derived.Test.YthjapmdikbmmkaaDoorParz23
namespace Go.Proofs.YthjapmdikbmmkaaDoor
open Go.RowKit
set_option maxRecDepth 100000
def stL (ks ns es ss : List Int) : List Int := tagL ((blkL ks 0 ns).take 32) (ttL es ss)
theorem blkL_byte (ks : List Int) (ct : Int) (ns : List Int) : ∀ x ∈ blkL ks ct ns, 0 ≤ x ∧ x < 256 := by
  unfold blkL
  split
  · exact blkB_byte ks ct ns
  · exact fun x hx => by cases hx
theorem littleL_byte (n : Int) (k : Nat) : ∀ x ∈ littleL n k, 0 ≤ x ∧ x < 256 := fun x hx => by
  obtain ⟨i, _, rfl⟩ := List.mem_map.1 hx
  omega
theorem ttL_byte {es ss : List Int} (ha : ∀ x ∈ es, 0 ≤ x ∧ x < 256) (hs : ∀ x ∈ ss, 0 ≤ x ∧ x < 256) : ∀ x ∈ ttL es ss, 0 ≤ x ∧ x < 256 := fun x hx => by
  unfold ttL fillL at hx
  simp only [List.mem_append, List.mem_replicate] at hx
  rcases hx with (((h | ⟨_, h⟩) | (h | ⟨_, h⟩)) | h) | h
  · exact ha x h
  · omega
  · exact hs x h
  · omega
  · exact littleL_byte _ _ x h
  · exact littleL_byte _ _ x h
theorem ttL_length (es ss : List Int) : (ttL es ss).length = ttN es.length ss.length := by
  simp only [ttL, fillL, List.length_append, List.length_replicate, littleL_length, ttN]
set_option maxHeartbeats 2000000 in
theorem sealTag_any (kp np ap sp : Option Addr) (kc nc an ac sn sc : Nat) (ks ns es ss : List Int) (w : World) (hk : ks.length = 32) (hn : ns.length = 12) (ha : es.length = an) (hs : ss.length = sn) (han : an ≤ 1048576) (hsn : sn ≤ 1048576) (ik : BytesIn w kp 32 ks) (im : BytesIn w np 12 ns) (ia : BytesIn w ap an es) (is : BytesIn w sp sn ss)
    (bk : ∀ x ∈ ks, 0 ≤ x ∧ x < 256) (bn : ∀ x ∈ ns, 0 ≤ x ∧ x < 256) (ba : ∀ x ∈ es, 0 ≤ x ∧ x < 256) (bs : ∀ x ∈ ss, 0 ≤ x ∧ x < 256) (hkc : 32 ≤ kc) (hnc : 12 ≤ nc) (hP : PlacesIs w) :
    Calls Tryd.prog 28 #[.slice kp 32 kc, .slice np 12 nc, .slice ap an ac, .slice sp sn sc] w fun e w' => ∃ p' c', e = .returned (.slice p' (tagN 32 (ttN an sn)) c') ∧ Own 5 w' w.heap.size w'.heap.size (.slice p' (tagN 32 (ttN an sn)) c') (tagN 32 (ttN an sn)) (stL ks ns es ss) ∧ Below w.heap.size w w' := by
  unfold stL
  have C1 := implBlk_any kp np 32 12 kc nc 0 ks ns w hk hn ik im bk bn hkc hnc hP
  have e64 : blkN 32 12 0 = 64 := by decide
  have hbl : (blkL ks 0 ns).length = 64 := by rw [blkL_length, hk, hn, e64]
  have hbb : ∀ x ∈ blkL ks 0 ns, 0 ≤ x ∧ x < 256 := blkL_byte ks 0 ns
  rw [e64] at C1
  have C2 := fun X (hX : Below w.heap.size w X) => implTagText_any ap sp an sn ac sc es ss X han hsn ha hs (in_below ia hX) (in_below is hX)
  have htl : (ttL es ss).length = ttN an sn := by rw [ttL_length, ha, hs]
  have htb := ttL_byte ba bs
  generalize blkL ks 0 ns = BL at C1 hbl hbb ⊢
  generalize ttL es ss = TL at C2 htl htb ⊢
  generalize ttN an sn = TN at C2 htl ⊢
  obtain ⟨A, hA⟩ : ∃ A, A = BL.take 32 := ⟨_, rfl⟩
  have hAl : A.length = 32 := by rw [hA, List.length_take, hbl]; rfl
  have hAb : ∀ x ∈ A, 0 ≤ x ∧ x < 256 := fun x hx => hbb x (List.mem_of_mem_take (hA ▸ hx))
  rw [← hA]
  clear ik im ia is bk bn ba bs hk hn ha hs e64
  go_enter Tryd.func28, Tryd.ntmps28
  go_wp2_with (fail)
  refine C1.mono ?_
  rintro e w1 ⟨p1, c1, rfl, r1, b1⟩
  clear C1
  have hc1 := r1.cap
  have r1' := r1.take (k := 32) (by omega)
  rw [← hA] at r1'
  obtain ⟨g, o, rfl, _⟩ := r1.bytes (by omega)
  have s1 : ∀ W, (Instr.slice 22 (.slice (some ⟨g, o, none⟩) 64 c1) none (some (.int .i64 32)) none).run Tryd.prog W = .ok (.slice (some ⟨g, o, none⟩) 32 c1) W := slice_to (some ⟨g, o, none⟩) 64 c1 32 (by omega) (fun h => by cases h)
  clear hA r1 hbl hbb
  go_wp2_with (fail)
  refine (C2 _ b1).mono ?_
  rintro e w2 ⟨p2, c2, rfl, r2, b2⟩
  have C3 := implTag_any (some ⟨g, o, none⟩) p2 32 TN c1 c2 A TL w2 hAl htl (r1'.on b2).bytes r2.bytes hAb htb (by omega) r2.cap
  clear C2 r1' s1
  go_wp2_with (fail)
  refine C3.mono ?_
  rintro e w3 ⟨p3, c3, rfl, r3, b3⟩
  go_wp2_with (fail)
  go_ret
  have k2 := below_on b1 b2
  exact ⟨_, _, rfl, ⟨owns_mono r3.1 k2.size, r3.2⟩, below_on k2 b3⟩
theorem run_append_row {P : Program} {w : World} {e t ty : TypeId} {i : TypeInfo} {g n m c cq : Nat} {ad : Addr} {cur : Array Value} {news : List Value} (ht : P.underlying t = some (.slice e)) (hi : P.info? e = some i) (hsize : i.size = 1)
    (hg : w.heap[g]? = some (.cells cur e (0, 0))) (hcs : cur.size = cq) (hl : news.length = m) (hnews : ∀ j u, news[j]? = some u → w.cell? (ad.add j) = some u) (h1 : ∀ u ∈ news, u.oneCell' = true) (hroom : n + m ≤ cq) :
    (Builtin.append_ #[t, t] ty #[.slice (some ⟨g, 0, none⟩) n cq, .slice (some ad) m c]).run P w = .ok (.slice (some ⟨g, 0, none⟩) (n + m) cq) (w.setRow g (cur.toList.take n ++ news ++ cur.toList.drop (n + news.length)).toArray) := by
  have hfc := run_firstCells_some (P := P) w i.size m ad m c news (by rw [hsize, hl, Nat.mul_one]) hnews
  have hst := run_storeCells_at P g n e news 0 cur w hg (by omega) h1
  simp only [Nat.add_zero] at hst
  rw [hsize] at hfc
  simp [Builtin.append_, run_underlying ht, sizeOf, typeInfo, hi, hsize, Builtin.lenOf, hfc, hroom, Addr.add_lit] at hst ⊢
  rw [hst]
  rfl
def capN (n ans : Nat) : Nat := (Question.appendCap n 0 5).cut ans
def zerV (k : Nat) : List Value := List.replicate k (.int .u8 0)
theorem zerA (k : Nat) : Builtin.zeroCells (Value.cells (.int .u8 0)) k = (zerV k).toArray := by
  apply Array.ext
  · simp [size_zeroCells, Value.cells, zerV]
  · intro j h1 h2
    simp [Builtin.zeroCells, Value.cells, Nat.mod_one, zerV]
set_option maxHeartbeats 2000000 in
theorem growNil_cap (n : Nat) (w : World) (h0 : 0 < n) (hn : n ≤ 1073741824) :
    Calls Tryd.prog 47 #[.slice none 0 0, .int .i64 n] w fun e w' => ∃ ans, n ≤ capN n ans ∧ capN n ans ≤ maxLen ∧ e = .returned (.slice (some ⟨w.heap.size, 0, none⟩) 0 (capN n ans)) ∧ w'.heap[w.heap.size]? = some (.cells (zerV (capN n ans)).toArray 5 (0, 0)) ∧ Below w.heap.size w w' := by
  obtain ⟨i0, hi, hz0, hz1, hz2⟩ := info_parts infoByte
  have h1 : ¬ ((n : Int) < 0) := by omega
  have h4 : (n : Int) > 0 := by omega
  have hrz := fun ty => Lib.run_append_nil_zeros (P := Tryd.prog) w 22 3 ty 5 i0 (.int .u8 0) .i64 .i64 Tryd.underlying22 Tryd.underlying3 hi hz0 n h0 (by omega) (by omega) (by rw [hz2]; omega)
  have hge := grownCap_ge w n 0 5
  have hcm := grownCap_le_maxLen w n 0 5 (by unfold maxLen; omega)
  obtain ⟨ans, hans⟩ : ∃ ans, grownCap w n 0 5 = capN n ans := ⟨_, rfl⟩
  rw [hans] at hge hcm
  simp only [hans] at hrz
  have hrow : (w.drew.alloc (.cells (Builtin.zeroCells (Value.cells (.int .u8 0)) n ++ Builtin.zeroCells (Value.cells (.int .u8 0)) (capN n ans - n)) 5)).heap[w.heap.size]? = some (.cells (zerV (capN n ans)).toArray 5 (0, 0)) := by
    have e : Builtin.zeroCells (Value.cells (.int .u8 0)) n ++ Builtin.zeroCells (Value.cells (.int .u8 0)) (capN n ans - n) = (zerV (capN n ans)).toArray := by
      rw [zerA, zerA, List.append_toArray]
      unfold zerV
      rw [List.replicate_append_replicate, Nat.add_sub_cancel' hge]
    rw [e]
    show (w.heap.push _)[w.heap.size]? = _
    simp
  have hbel : Below w.heap.size w (w.drew.alloc (.cells (Builtin.zeroCells (Value.cells (.int .u8 0)) n ++ Builtin.zeroCells (Value.cells (.int .u8 0)) (capN n ans - n)) 5)) := (Below.refl _ _).drew.alloc (by simp) _
  generalize w.drew.alloc (.cells (Builtin.zeroCells (Value.cells (.int .u8 0)) n ++ Builtin.zeroCells (Value.cells (.int .u8 0)) (capN n ans - n)) 5) = w1 at hrz hrow hbel
  have fin : Hid (∃ ans', n ≤ capN n ans' ∧ capN n ans' ≤ maxLen ∧ capN n ans = capN n ans' ∧ w1.heap[w.heap.size]? = some (.cells (zerV (capN n ans')).toArray 5 (0, 0))) := ⟨ans, hge, hcm, rfl, hrow⟩
  generalize capN n ans = G at hrz hge hcm fin
  unfold maxLen at hcm
  clear hans hrow
  go_enter Tryd.func47, Tryd.ntmps47
  go_wp2_with (at_builtin; refine Lib.wpList_append_run _ rfl _ _ _ _ rfl _ _ rfl rfl _ _ (hrz _) ?_)
  all_goals
    go_ret
    obtain ⟨ans', a1, a2, a3, a4⟩ := fin.out
    subst a3
    exact ⟨ans', a1, a2, rfl, a4, hbel⟩
theorem list_room {P : Program} {i : TypeInfo} {g n m c cq k lo : Nat} {wr w0 : World} {p : Option Addr} {xs ys : List Int} {ops : Array Oper} {rest : List Oper} {o : Oper} {a : Act} {Q : Exit → Act → World → Prop} (hi : P.info? 5 = some i) (hsize : i.size = 1) (s y : Operand) (t : TypeId) (ht : P.underlying t = some (.slice 5))
    (hg : wr.heap[g]? = some (.cells (xs.map (Value.int .u8) ++ zerV k).toArray 5 (0, 0))) (hx : xs.length = n) (hk : n + k = cq) (hin : BytesIn wr p m ys) (hl : ys.length = m) (hroom : m ≤ k) (hb : Below lo w0 wr) (hlo : lo ≤ g)
    (hgd : o.guard = none) (ho : o.op = .call { callee := .builtin .append, args := #[s, y], argTypes := #[t, t] }) (hs : a.eval s = .slice (some ⟨g, 0, none⟩) n cq) (hy : a.eval y = .slice p m c)
    (h : ∀ w', w'.heap[g]? = some (.cells ((xs ++ ys).map (Value.int .u8) ++ zerV (k - m)).toArray 5 (0, 0)) → Below lo w0 w' → wpList P ops Q rest (a.put o.dst (.slice (some ⟨g, 0, none⟩) (n + m) cq)) w') : wpList P ops Q (o :: rest) a wr := by
  rcases Nat.eq_zero_or_pos m with h0 | h0
  · subst h0
    obtain rfl : ys = [] := List.eq_nil_of_length_eq_zero hl
    simp only [List.append_nil, Nat.add_zero, Nat.sub_zero] at h
    exact Lib.wpList_append_run wr hgd s y t t ho _ _ hs hy _ _ (append_empty wr t o.type 5 i ht hi (some ⟨g, 0, none⟩) n cq p c (by omega)) (h _ hg hb)
  · obtain ⟨b, of, rfl, hc⟩ := hin h0
    have hcs : ((xs.map (Value.int .u8) ++ zerV k).toArray).size = cq := by simp [zerV, hx, hk]
    have hrun := run_append_row (P := P) (w := wr) (ty := o.type) (c := c) (n := n) (m := m) (ad := ⟨b, of, none⟩) (news := ys.map (Value.int .u8)) ht hi hsize hg hcs (by simp [hl]) (fun j u hu => by
      rw [List.getElem?_map] at hu
      obtain ⟨v, hv, rfl⟩ := Option.map_eq_some_iff.1 hu
      have hj := (List.getElem?_eq_some_iff.1 hv).1
      rw [Addr.add_lit, hc j (by omega), List.getD_eq_getElem?_getD, hv]
      rfl) (fun u hu => by obtain ⟨v, _, rfl⟩ := List.mem_map.1 hu; rfl) (by omega)
    have e : ((xs.map (Value.int .u8) ++ zerV k).toArray.toList.take n ++ ys.map (Value.int .u8) ++ (xs.map (Value.int .u8) ++ zerV k).toArray.toList.drop (n + (ys.map (Value.int .u8)).length)) = (xs ++ ys).map (Value.int .u8) ++ zerV (k - m) := by
      have hxl : (xs.map (Value.int .u8)).length = n := by simpa using hx
      have hyl : (ys.map (Value.int .u8)).length = m := by simpa using hl
      show (xs.map (Value.int .u8) ++ zerV k).take n ++ ys.map (Value.int .u8) ++ (xs.map (Value.int .u8) ++ zerV k).drop (n + (ys.map (Value.int .u8)).length) = _
      rw [hyl, ← hxl, List.take_left, ← List.drop_drop, List.drop_left, List.map_append, zerV, List.drop_replicate]
      rfl
    rw [e] at hrun
    exact Lib.wpList_append_run wr hgd s y t t ho _ _ hs hy _ _ hrun (h _ (setRow_heap _ _ _ _ _ _ hg) (below_setRow hb hlo _))
theorem catL_length {nf : Nat → Nat} {xf : Nat → List Int} {m : Nat} (h : ∀ k, k < m → (xf k).length = nf k) : ∀ k, k ≤ m → (catL xf k).length = sumN nf k
  | 0, _ => rfl
  | k + 1, hk => by rw [catL, sumN, List.length_append, catL_length h k (by omega), h k (by omega)]
set_option maxHeartbeats 4000000 in
theorem concat_cap (gr m : Nat) (Pf : Nat → Option Addr) (nf cf : Nat → Nat) (xf : Nat → List Int) (w : World) (hm : m ≤ 1000) (hcell : ∀ k, k < m → w.cell? ⟨gr, k, none⟩ = some (.slice (Pf k) (nf k) (cf k)))
    (hlen : ∀ k, k < m → (xf k).length = nf k) (hin : ∀ k, k < m → BytesIn w (Pf k) (nf k) (xf k)) (h0 : 0 < sumN nf m) (hs : sumN nf m ≤ 1073741824) :
    Calls Tryd.prog 27 #[.slice (some ⟨gr, 0, none⟩) m m] w fun e w' => ∃ ans, e = .returned (.slice (some ⟨w.heap.size, 0, none⟩) (sumN nf m) (capN (sumN nf m) ans)) ∧ sumN nf m ≤ capN (sumN nf m) ans ∧ w'.heap[w.heap.size]? = some (.cells ((catL xf m).map (Value.int .u8) ++ zerV (capN (sumN nf m) ans - sumN nf m)).toArray 5 (0, 0)) ∧ Below w.heap.size w w' := by
  obtain ⟨i0, hi, hz0, hz1, hz2⟩ := info_parts infoByte
  have HC : Hid (∀ k, k < m → w.cell? ⟨gr, k, none⟩ = some (.slice (Pf k) (nf k) (cf k))) := hcell
  have HL : Hid (∀ k, k < m → (xf k).length = nf k) := hlen
  have HI : Hid (∀ k, k < m → BytesIn w (Pf k) (nf k) (xf k)) := hin
  clear hcell hlen hin
  go_enter Tryd.func27, Tryd.ntmps27
  go_wp2
  go_loop [3, 11] (fun v i => ∃ k s : Nat, k ≤ m ∧ i = .int .i64 k ∧ v = .int .i64 s ∧ Hid (s = sumN nf k)) (fun _ i => m - (intOf i).toNat)
  case atStart => exact ⟨0, 0, by omega, rfl, rfl, rfl⟩
  case round =>
    obtain ⟨k, s, hk, rfl, rfl, hsk⟩ := hrel
    by_cases hlt : k < m
    · have hc := HC.out k hlt
      have hle : s + nf k ≤ 1073741824 := by rw [hsk.out]; exact Nat.le_trans (sumN_le nf (k := k + 1) hlt) hs
      have HN : Hid (s + nf k = sumN nf (k + 1)) := by rw [hsk.out]; rfl
      generalize nf k = n1 at hc hle HN
      generalize Pf k = p1 at hc
      generalize cf k = c1 at hc
      have hneg : ¬ ((s : Int) + (n1 : Int) < 0) := by omega
      go_wp2
      go_round
      case rel => exact ⟨k + 1, s + n1, by omega, by go_num, by go_num, HN⟩
      case measure => simp [intOf]; omega
    · obtain rfl : k = m := by omega
      obtain rfl : s = sumN nf k := hsk.out
      clear hsk
      have HS : Hid (sumN nf k = sumN nf k) := rfl
      generalize hN : sumN nf k = N at h0 hs HS ⊢
      clear HS
      have HNn : Hid (sumN nf k = N) := hN
      clear hN
      have hneg : ¬ ((N : Int) < 0) := by omega
      go_wp2_with (fail)
      refine (growNil_cap N _ h0 hs).mono ?_
      rintro e w1 ⟨ans, hge, hcm, rfl, ho1, b1⟩
      have HP : Hid (∀ v : World, v.heap[w.heap.size]? = some (.cells ((catL xf k).map (Value.int .u8) ++ zerV (capN N ans - N)).toArray 5 (0, 0)) → Below w.heap.size w v → ∃ ans', capN N ans = capN N ans' ∧ N ≤ capN N ans' ∧ v.heap[w.heap.size]? = some (.cells ((catL xf k).map (Value.int .u8) ++ zerV (capN N ans' - N)).toArray 5 (0, 0)) ∧ Below w.heap.size w v) := fun v h1 h2 => ⟨ans, rfl, hge, h1, h2⟩
      generalize capN N ans = CP at hge hcm ho1 HP ⊢
      unfold maxLen at hcm
      go_wp2_with (fail)
      go_loopw [6, 27] (fun v i wr => ∃ j s z : Nat, j ≤ k ∧ i = .int .i64 j ∧ Hid (s = sumN nf j) ∧ s + z = CP ∧ v = .slice (some ⟨w.heap.size, 0, none⟩) s CP ∧ wr.heap[w.heap.size]? = some (.cells ((catL xf j).map (Value.int .u8) ++ zerV z).toArray 5 (0, 0)) ∧ Below w.heap.size w wr)
        (fun _ i _ => k - (intOf i).toNat)
      case atStart => exact ⟨0, 0, CP, by omega, rfl, rfl, by omega, rfl, ho1, b1⟩
      case round =>
        clear ho1 b1
        obtain ⟨j, s, z, hj, rfl, hsj, hsz', rfl, hown, hbel⟩ := hrel
        have hsz := hbel.size
        by_cases hlt2 : j < k
        · have hc := HC.out j hlt2
          have hgr : gr < w.heap.size := World.block_lt_of_cell? w ⟨gr, j, none⟩ hc
          have hc2 := (hbel.cell (p := ⟨gr, j, none⟩) hgr).trans hc
          have hle : s + nf j ≤ N := by rw [hsj.out, ← HNn.out]; exact sumN_le nf (k := j + 1) hlt2
          have HN : Hid (s + nf j = sumN nf (j + 1)) := by rw [hsj.out]; rfl
          have hl := HL.out j hlt2
          have hI := HI.out j hlt2
          replace hI : BytesIn wr (Pf j) (nf j) (xf j) := by
            intro hpos
            obtain ⟨bb, oo, e1, e2⟩ := hI hpos
            exact ⟨bb, oo, e1, fun i hi => (hbel.cell (p := ⟨bb, oo + i, none⟩) (World.block_lt_of_cell? w ⟨bb, oo + i, none⟩ (e2 i hi))).trans (e2 i hi)⟩
          have HX : Hid (catL xf j ++ xf j = catL xf (j + 1)) := rfl
          generalize nf j = n1 at hc hc2 hle HN hl hI
          generalize Pf j = p1 at hc hc2 hI
          generalize cf j = c1 at hc hc2
          generalize xf j = y1 at hl hI HX
          have hcl : (catL xf j).length = s := by rw [hsj.out]; exact catL_length HL.out j (by omega)
          clear hc
          go_wp2_with (at_builtin; refine list_room hi hz1 (.tmp 31) (.tmp 32) 22 Tryd.underlying22 hown hcl hsz' hI hl (by omega) hbel (Nat.le_refl _) (by rfl) (by rfl) (by rfl) (by rfl) ?_; intro w3 ho3 hb3; rw [HX.out] at ho3)
          go_roundw
          case rel => exact ⟨j + 1, s + n1, z - n1, by omega, by go_num, HN, by omega, rfl, ho3, hb3⟩
          case measure => simp [intOf]; omega
        · obtain rfl : j = k := by omega
          obtain rfl : s = N := hsj.out.trans HNn.out
          obtain rfl : z = CP - s := by omega
          go_wp2
          go_ret
          rw [HNn.out]
          obtain ⟨ans', a1, a2, a3, a4⟩ := HP.out _ hown hbel
          subst a1
          exact ⟨ans', rfl, a2, a3, a4⟩
end Go.Proofs.YthjapmdikbmmkaaDoor
namespace Go.Proofs.YthjapmdikbmmkaaDoor
open Go Go.Conc
set_option maxRecDepth 100000
theorem tameA_one {P : Program} {Al : Als} {f : Nat} {fn : Func} (h : P.funcs[f]? = some fn) (hc : (match fn.body with | some b => okCodeT P Al (Al.f f) b | none => false) = true) (hn : (fn.name == "runtime.NumGoroutine") = false) (hl : ∀ t, 200 ≤ t → Al.f f t = false) : ∃ fn body, P.funcs[f]? = some fn ∧ (fn.name == "runtime.NumGoroutine") = false ∧ fn.body = some body ∧ (Al.b f = false → okCodeT P Al (Al.f f) body = true) ∧ ∀ t, 200 ≤ t → Al.f f t = false := by
  cases hb : fn.body with
  | none => rw [hb] at hc; cases hc
  | some b =>
    rw [hb] at hc
    exact ⟨fn, b, h, hn, hb, fun _ => hc, hl⟩
theorem tameA_base {P : Program} {Al : Als} {f : Nat} {fn : Func} (h : P.funcs[f]? = some fn) (hc : fn.body.isSome = true) (hb : Al.b f = true) (hn : (fn.name == "runtime.NumGoroutine") = false) (hl : ∀ t, 200 ≤ t → Al.f f t = false) : ∃ fn body, P.funcs[f]? = some fn ∧ (fn.name == "runtime.NumGoroutine") = false ∧ fn.body = some body ∧ (Al.b f = false → okCodeT P Al (Al.f f) body = true) ∧ ∀ t, 200 ≤ t → Al.f f t = false := by
  obtain ⟨b, hb'⟩ := Option.isSome_iff_exists.1 hc
  exact ⟨fn, b, h, hn, hb', fun h' => absurd (hb.symm.trans h') (by decide), hl⟩
theorem step_none {P : Program} {G : Nat} (h : (P.funcs.all fun f => (f.body.map readies).all (fun l => l.all (decide <| · < G))) = true) {g : Nat} (hg : G ≤ g) : P.stepOf g = none := by
  unfold Program.stepOf
  rw [Array.findIdx?_eq_none_iff]
  intro f hf
  have h1 := (Array.all_eq_true'.1 h) f hf
  cases hb : f.body.map readies with
  | none => rfl
  | some l =>
    rw [hb] at h1
    simp only [Option.all_some, List.all_eq_true, decide_eq_true_eq] at h1
    simp only [Option.any_some]
    refine Bool.eq_false_iff.2 fun hc => ?_
    have := h1 g (List.contains_iff_mem.1 hc)
    omega
end Go.Proofs.YthjapmdikbmmkaaDoor
namespace Go.Proofs.YthjapmdikbmmkaaDoor
open Go Go.Conc
def alsS : Als := ⟨fun f => [3, 4, 5, 6, 7, 8, 9, 10, 11, 12, 13, 14, 15, 16, 17, 18, 19, 20, 21, 22, 23, 25, 27, 28, 29, 30, 31, 33, 34, 35, 36, 37, 38, 39, 40, 41, 42, 43, 44, 47, 48, 49, 50, 51, 52, 53, 54, 55, 56, 57, 58, 59, 60, 61, 62, 63, 64, 65, 66, 67, 68, 69, 70, 71, 72, 73, 74, 75, 76, 77, 78, 79, 80, 81, 82, 83, 84, 85, 86, 87, 88, 89].contains f, fun f t => (f == 79 && [5, 21].contains t), fun f => [4, 5, 3, 8, 11].contains f⟩
theorem lateS (f t : Nat) (h : 200 ≤ t) : alsS.f f t = false := by
  simp only [alsS, List.contains_cons, List.contains_nil, Bool.or_false, Bool.or_eq_false_iff, Bool.and_eq_false_iff, beq_eq_false_iff_ne]
  omega
theorem tameAS : TameA Tryd.prog alsS := by
  refine ⟨fun f hf => ?_, by kernel_rfl, fun g hg => step_none (by kernel_rfl) hg⟩
  simp only [alsS, List.contains_cons, List.contains_nil, Bool.or_false, Bool.or_eq_true, beq_iff_eq] at hf
  rcases hf with rfl | rfl | rfl | rfl | rfl | rfl | rfl | rfl | rfl | rfl | rfl | rfl | rfl | rfl | rfl | rfl | rfl | rfl | rfl | rfl | rfl | rfl | rfl | rfl | rfl | rfl | rfl | rfl | rfl | rfl | rfl | rfl | rfl | rfl | rfl | rfl | rfl | rfl | rfl | rfl | rfl | rfl | rfl | rfl | rfl | rfl | rfl | rfl | rfl | rfl | rfl | rfl | rfl | rfl | rfl | rfl | rfl | rfl | rfl | rfl | rfl | rfl | rfl | rfl | rfl | rfl | rfl | rfl | rfl | rfl | rfl | rfl | rfl | rfl | rfl | rfl | rfl | rfl | rfl | rfl | rfl | rfl
  · exact tameA_base Tryd.func3 (by kernel_rfl) (by decide) (by kernel_rfl) (lateS _)
  · exact tameA_base Tryd.func4 (by kernel_rfl) (by decide) (by kernel_rfl) (lateS _)
  · exact tameA_base Tryd.func5 (by kernel_rfl) (by decide) (by kernel_rfl) (lateS _)
  · exact tameA_one Tryd.func6 (by kernel_rfl) (by kernel_rfl) (lateS _)
  · exact tameA_one Tryd.func7 (by kernel_rfl) (by kernel_rfl) (lateS _)
  · exact tameA_base Tryd.func8 (by kernel_rfl) (by decide) (by kernel_rfl) (lateS _)
  · exact tameA_one Tryd.func9 (by kernel_rfl) (by kernel_rfl) (lateS _)
  · exact tameA_one Tryd.func10 (by kernel_rfl) (by kernel_rfl) (lateS _)
  · exact tameA_base Tryd.func11 (by kernel_rfl) (by decide) (by kernel_rfl) (lateS _)
  · exact tameA_one Tryd.func12 (by kernel_rfl) (by kernel_rfl) (lateS _)
  · exact tameA_one Tryd.func13 (by kernel_rfl) (by kernel_rfl) (lateS _)
  · exact tameA_one Tryd.func14 (by kernel_rfl) (by kernel_rfl) (lateS _)
  · exact tameA_one Tryd.func15 (by kernel_rfl) (by kernel_rfl) (lateS _)
  · exact tameA_one Tryd.func16 (by kernel_rfl) (by kernel_rfl) (lateS _)
  · exact tameA_one Tryd.func17 (by kernel_rfl) (by kernel_rfl) (lateS _)
  · exact tameA_one Tryd.func18 (by kernel_rfl) (by kernel_rfl) (lateS _)
  · exact tameA_one Tryd.func19 (by kernel_rfl) (by kernel_rfl) (lateS _)
  · exact tameA_one Tryd.func20 (by kernel_rfl) (by kernel_rfl) (lateS _)
  · exact tameA_one Tryd.func21 (by kernel_rfl) (by kernel_rfl) (lateS _)
  · exact tameA_one Tryd.func22 (by kernel_rfl) (by kernel_rfl) (lateS _)
  · exact tameA_one Tryd.func23 (by kernel_rfl) (by kernel_rfl) (lateS _)
  · exact tameA_one Tryd.func25 (by kernel_rfl) (by kernel_rfl) (lateS _)
  · exact tameA_one Tryd.func27 (by kernel_rfl) (by kernel_rfl) (lateS _)
  · exact tameA_one Tryd.func28 (by kernel_rfl) (by kernel_rfl) (lateS _)
  · exact tameA_one Tryd.func29 (by kernel_rfl) (by kernel_rfl) (lateS _)
  · exact tameA_one Tryd.func30 (by kernel_rfl) (by kernel_rfl) (lateS _)
  · exact tameA_one Tryd.func31 (by kernel_rfl) (by kernel_rfl) (lateS _)
  · exact tameA_one Tryd.func33 (by kernel_rfl) (by kernel_rfl) (lateS _)
  · exact tameA_one Tryd.func34 (by kernel_rfl) (by kernel_rfl) (lateS _)
  · exact tameA_one Tryd.func35 (by kernel_rfl) (by kernel_rfl) (lateS _)
  · exact tameA_one Tryd.func36 (by kernel_rfl) (by kernel_rfl) (lateS _)
  · exact tameA_one Tryd.func37 (by kernel_rfl) (by kernel_rfl) (lateS _)
  · exact tameA_one Tryd.func38 (by kernel_rfl) (by kernel_rfl) (lateS _)
  · exact tameA_one Tryd.func39 (by kernel_rfl) (by kernel_rfl) (lateS _)
  · exact tameA_one Tryd.func40 (by kernel_rfl) (by kernel_rfl) (lateS _)
  · exact tameA_one Tryd.func41 (by kernel_rfl) (by kernel_rfl) (lateS _)
  · exact tameA_one Tryd.func42 (by kernel_rfl) (by kernel_rfl) (lateS _)
  · exact tameA_one Tryd.func43 (by kernel_rfl) (by kernel_rfl) (lateS _)
  · exact tameA_one Tryd.func44 (by kernel_rfl) (by kernel_rfl) (lateS _)
  · exact tameA_one Tryd.func47 (by kernel_rfl) (by kernel_rfl) (lateS _)
  · exact tameA_one Tryd.func48 (by kernel_rfl) (by kernel_rfl) (lateS _)
  · exact tameA_one Tryd.func49 (by kernel_rfl) (by kernel_rfl) (lateS _)
  · exact tameA_one Tryd.func50 (by kernel_rfl) (by kernel_rfl) (lateS _)
  · exact tameA_one Tryd.func51 (by kernel_rfl) (by kernel_rfl) (lateS _)
  · exact tameA_one Tryd.func52 (by kernel_rfl) (by kernel_rfl) (lateS _)
  · exact tameA_one Tryd.func53 (by kernel_rfl) (by kernel_rfl) (lateS _)
  · exact tameA_one Tryd.func54 (by kernel_rfl) (by kernel_rfl) (lateS _)
  · exact tameA_one Tryd.func55 (by kernel_rfl) (by kernel_rfl) (lateS _)
  · exact tameA_one Tryd.func56 (by kernel_rfl) (by kernel_rfl) (lateS _)
  · exact tameA_one Tryd.func57 (by kernel_rfl) (by kernel_rfl) (lateS _)
  · exact tameA_one Tryd.func58 (by kernel_rfl) (by kernel_rfl) (lateS _)
  · exact tameA_one Tryd.func59 (by kernel_rfl) (by kernel_rfl) (lateS _)
  · exact tameA_one Tryd.func60 (by kernel_rfl) (by kernel_rfl) (lateS _)
  · exact tameA_one Tryd.func61 (by kernel_rfl) (by kernel_rfl) (lateS _)
  · exact tameA_one Tryd.func62 (by kernel_rfl) (by kernel_rfl) (lateS _)
  · exact tameA_one Tryd.func63 (by kernel_rfl) (by kernel_rfl) (lateS _)
  · exact tameA_one Tryd.func64 (by kernel_rfl) (by kernel_rfl) (lateS _)
  · exact tameA_one Tryd.func65 (by kernel_rfl) (by kernel_rfl) (lateS _)
  · exact tameA_one Tryd.func66 (by kernel_rfl) (by kernel_rfl) (lateS _)
  · exact tameA_one Tryd.func67 (by kernel_rfl) (by kernel_rfl) (lateS _)
  · exact tameA_one Tryd.func68 (by kernel_rfl) (by kernel_rfl) (lateS _)
  · exact tameA_one Tryd.func69 (by kernel_rfl) (by kernel_rfl) (lateS _)
  · exact tameA_one Tryd.func70 (by kernel_rfl) (by kernel_rfl) (lateS _)
  · exact tameA_one Tryd.func71 (by kernel_rfl) (by kernel_rfl) (lateS _)
  · exact tameA_one Tryd.func72 (by kernel_rfl) (by kernel_rfl) (lateS _)
  · exact tameA_one Tryd.func73 (by kernel_rfl) (by kernel_rfl) (lateS _)
  · exact tameA_one Tryd.func74 (by kernel_rfl) (by kernel_rfl) (lateS _)
  · exact tameA_one Tryd.func75 (by kernel_rfl) (by kernel_rfl) (lateS _)
  · exact tameA_one Tryd.func76 (by kernel_rfl) (by kernel_rfl) (lateS _)
  · exact tameA_one Tryd.func77 (by kernel_rfl) (by kernel_rfl) (lateS _)
  · exact tameA_one Tryd.func78 (by kernel_rfl) (by kernel_rfl) (lateS _)
  · exact tameA_one Tryd.func79 (by kernel_rfl) (by kernel_rfl) (lateS _)
  · exact tameA_one Tryd.func80 (by kernel_rfl) (by kernel_rfl) (lateS _)
  · exact tameA_one Tryd.func81 (by kernel_rfl) (by kernel_rfl) (lateS _)
  · exact tameA_one Tryd.func82 (by kernel_rfl) (by kernel_rfl) (lateS _)
  · exact tameA_one Tryd.func83 (by kernel_rfl) (by kernel_rfl) (lateS _)
  · exact tameA_one Tryd.func84 (by kernel_rfl) (by kernel_rfl) (lateS _)
  · exact tameA_one Tryd.func85 (by kernel_rfl) (by kernel_rfl) (lateS _)
  · exact tameA_one Tryd.func86 (by kernel_rfl) (by kernel_rfl) (lateS _)
  · exact tameA_one Tryd.func87 (by kernel_rfl) (by kernel_rfl) (lateS _)
  · exact tameA_one Tryd.func88 (by kernel_rfl) (by kernel_rfl) (lateS _)
  · exact tameA_one Tryd.func89 (by kernel_rfl) (by kernel_rfl) (lateS _)
end Go.Proofs.YthjapmdikbmmkaaDoor
namespace Go.Proofs.YthjapmdikbmmkaaDoor
open Go Go.Conc Go.RowKit
set_option maxRecDepth 100000
theorem BytesT.into {w : World} {p : Option Addr} {n c : Nat} {xs : List Int} (h : BytesT w p n c xs) : BytesIn w p n xs := fun h0 => by
  obtain ⟨b, o, e, hc⟩ := h.lies h0
  have := h.len
  exact ⟨b, o, e, fun i hi => hc i _ (by rw [List.getD_eq_getElem?_getD, List.getElem?_eq_getElem (by omega)]; rfl)⟩
theorem BytesT.keeps {w w1 : World} {p : Option Addr} {n c : Nat} {xs : List Int} (h : BytesT w p n c xs) (hk : ∀ b, b < w.heap.size → w1.heap[b]? = w.heap[b]?) : BytesT w1 p n c xs := ⟨h.len, h.cap, h.low, fun h0 => by
  obtain ⟨b, o, e, hb, hc⟩ := h.at h0
  refine ⟨b, o, e, fun j u hj => ?_⟩
  have := hc j u hj
  simp only [World.cell?] at this ⊢
  rw [hk b hb]
  exact this⟩
def seaL (KS NS AS BS : List Int) : List Int := strT KS 1 NS BS ++ stL KS NS AS (strT KS 1 NS BS)
theorem strT_length (KS : List Int) (ct : Int) (NS BS : List Int) : (strT KS ct NS BS).length = BS.length := by
  unfold strT
  rw [outR_length]
  omega
theorem xorT_byte : ∀ {xs ys : List Int}, ∀ x ∈ xorL xs ys, 0 ≤ x ∧ x < 256
  | [], _ => fun x h => by simp [xorL] at h
  | _ :: _, [] => fun x h => by simp [xorL] at h
  | x :: xs, y :: ys => fun z h => by
    rcases List.mem_cons.1 (show z ∈ bits .xor .u8 x y :: xorL xs ys from h) with rfl | h
    · simp only [bits, IntKind.wrap, IntKind.bits, IntKind.signed]
      exact ⟨by simp; omega, by simp; omega⟩
    · exact xorT_byte z h
theorem outR_byte (BS : List Int) (bs : Nat → Nat → Int) (i : Nat) : ∀ x ∈ outR BS bs i, 0 ≤ x ∧ x < 256 := by
  induction i with
  | zero => exact fun x h => by cases h
  | succ i ih =>
    intro x h
    rw [outR] at h
    exact (List.mem_append.1 h).elim (ih x) (xorT_byte x)
theorem strT_byte (KS : List Int) (ct : Int) (NS BS : List Int) : ∀ x ∈ strT KS ct NS BS, 0 ≤ x ∧ x < 256 := outR_byte _ _ _
theorem cap_le (n ans : Nat) (h : n < 9223372036854775808) : capN n ans ≤ maxLen := by
  have : ans % (2 ^ 63 - n) < 2 ^ 63 - n := Nat.mod_lt _ (by omega)
  show n + ans % (2 ^ 63 - n) ≤ 2 ^ 63 - 1
  omega
def SealTo (kn nn an bn : Nat) (KS NS AS BS : List Int) (c : Frame) (cs : List Frame) (w : World) (g1 : Goroutine) (w1 : World) : Prop :=
  Lay w w1 ∧ ((¬ SizesOk kn nn an bn ∧ g1 = G (c.finish (.tuple #[.slice none 0 0, .bool false])) cs) ∨ (SizesOk kn nn an bn ∧ ∃ γ rc, w.heap.size ≤ γ ∧ bn + 16 ≤ rc ∧ rc ≤ maxLen ∧ g1 = G (c.finish (.tuple #[.slice (some ⟨γ, 0, none⟩) (bn + 16) rc, .bool true])) cs ∧ w1.heap[γ]? = some (.cells ((seaL KS NS AS BS).map (Value.int .u8) ++ zerV (rc - (bn + 16))).toArray 5 (0, 0))))
set_option maxHeartbeats 4000000 in
theorem seal_bes (kp np ap bp : Option Addr) (kn kc nn nc an ac bn bc : Nat) (KS NS AS BS : List Int) (c : Frame) (cs : List Frame) (C : Array Value) (e : TypeId) (w : World) (hK : BytesT w kp kn kc KS) (hN : BytesT w np nn nc NS) (hA : BytesT w ap an ac AS) (hB : BytesT w bp bn bc BS)
    (hT : TableIn C e w) (hC : ∀ v ∈ C, flatC v = true) (hCp : ∀ (j : Nat) v, placesC[j]? = some v → C[j]? = some v) (hG : CellsTo Tryd.prog.globals.size w) :
    Bes Tryd.prog (SealTo kn nn an bn KS NS AS BS c cs w) (G (Frame.enter Tryd.prog 8 #[.slice kp kn kc, .slice np nn nc, .slice ap an ac, .slice bp bn bc] .normal) (c :: cs)) w := by
  refine (Bes.of_co (Sh := fun _ => False) (M := fun b => b < w.heap.size) (Stop := fun _ g w2 => Lay w w2 ∧ ((¬ SizesOk kn nn an bn ∧ g = G (c.finish (.tuple #[.slice none 0 0, .bool false])) cs) ∨ (SizesOk kn nn an bn ∧ ∃ R O, w.heap.size ≤ R ∧ R < O ∧ O < w2.heap.size ∧ w2.heap[R]? = some (.cells #[.slice none 0 0] 22 (0, 0)) ∧ w2.heap[O]? = some (.cells #[.bool false] 4 (0, 0)) ∧
      g = G (Frame.enter Tryd.prog 26 #[.slice kp kn kc, .int .i64 1, .slice np nn nc, .slice bp bn bc] .normal) (strE (.slice kp kn kc) (.slice np nn nc) (.slice ap an ac) bp bn bc R O undef [3, 4] :: c :: cs))))
    (seal_first kp np ap bp kn kc nn nc an ac bn bc c cs (fun b h => h) (fun b h => h.elim) (fun w2 M' hno hk hM hM' hlow => .stop fun w3 hk3 => ⟨⟨fun b hb => (hk3.heap b (hM b hb)).trans (hk.heap b hb), Nat.le_trans hk.size hk3.size, hk3.os.trans hk.os, hk3.output.trans hk.output, hk3.tape.trans hk.tape⟩, .inl ⟨hno, rfl⟩⟩)
      (fun w2 R O hok hk hR hRO hO hRc hOc => .stop fun w3 hk3 => ⟨⟨fun b hb => (hk3.heap b (.inl (.inl hb))).trans (hk.heap b hb), Nat.le_trans hk.size hk3.size, hk3.os.trans hk.os, hk3.output.trans hk.output, hk3.tape.trans hk.tape⟩, .inr ⟨hok, R, O, hR, hRO, Nat.lt_of_lt_of_le hO hk3.size, (hk3.heap R (.inl (.inr rfl))).trans hRc, (hk3.heap O (.inr rfl)).trans hOc, rfl⟩⟩))
    (fun b h => h) fun _ g w2 h _ => h).bind fun g w2 ⟨hl2, h⟩ => ?_
  rcases h with ⟨hno, rfl⟩ | ⟨hok, R, O, hR, hRO, hO, hRc, hOc, rfl⟩
  · exact .now ⟨hl2, .inl ⟨hno, rfl⟩⟩
  obtain ⟨rfl, rfl, han, _, hbn⟩ := hok
  have hbn' : bn ≤ 1500 := by omega
  have hok : SizesOk 32 12 an bn := ⟨rfl, rfl, han, by omega, hbn⟩
  have hT2 : TableIn C e w2 := by
    obtain ⟨lo, hi, h1, h2⟩ := hT
    exact ⟨lo, hi, (hl2.heap _ (Array.getElem?_eq_some_iff.1 h1).1).trans h1, h2⟩
  refine (stream_bes kp np bp 32 kc 12 nc bn bc 1 KS NS BS _ (c :: cs) C e w2 (hK.keeps hl2.heap) (hN.keeps hl2.heap) (hB.keeps hl2.heap) (by decide) hT2 hC hCp).bind fun g w3 ⟨v', hg, hl3, h⟩ => ?_
  have hgood : GoodT 32 12 bn 1 := ⟨rfl, rfl, by omega, by omega, by omega⟩
  rcases h with ⟨hn, _⟩ | ⟨_, τ, rfl, hτ, hτc⟩
  · exact absurd hgood hn
  subst hg
  have hl23 : Lay w w3 := hl2.on hl3
  have z2 := hl2.size
  have z3 := hl3.size
  have hRlt : R < w2.heap.size := by omega
  have hRc3 := (hl3.heap R hRlt).trans hRc
  have hOc3 := (hl3.heap O hO).trans hOc
  have hτlt : τ < w3.heap.size := (Array.getElem?_eq_some_iff.1 hτc).1
  refine (Bes.of_co (Sh := fun _ => False) (M := fun b => b < w3.heap.size) (Stop := fun _ g w4 => Lay w3 w4 ∧ g = G (Frame.enter Tryd.prog 28 #[.slice kp 32 kc, .slice np 12 nc, .slice ap an ac, .slice (some ⟨τ, 0, none⟩) bn bn] .normal) (tagE (.slice kp 32 kc) (.slice np 12 nc) (.slice ap an ac) bp bn bc R O (.slice (some ⟨τ, 0, none⟩) bn bn) undef [5, 6, 7, 8, 9] :: c :: cs))
    (seal_second _ _ _ bp bn bc R O _ (c :: cs) (.stop fun w4 hk4 => ⟨hk4, rfl⟩)) (fun b h => h) fun _ g w4 h _ => h).bind fun g w4 ⟨hl4, hg⟩ => ?_
  subst hg
  have hl34 : Lay w w4 := hl23.on hl4
  have z4 := hl4.size
  have hP : ∀ {w' : World}, Lay w w' → PlacesIs w' := fun {w'} hl => by
    obtain ⟨lo, hi, h1, h2⟩ := hT
    have h3 := (hl.heap _ (Array.getElem?_eq_some_iff.1 h1).1).trans h1
    intro j v hv
    simp only [World.cell?, h3, Option.isSome_none, Bool.false_eq_true, if_false, Nat.zero_add]
    exact hCp j v hv
  obtain ⟨ST, hST⟩ : ∃ ST, ST = strT KS 1 NS BS := ⟨_, rfl⟩
  have hSTl : ST.length = bn := by rw [hST, strT_length]; exact hB.len
  have hSTb : ∀ x ∈ ST, 0 ≤ x ∧ x < 256 := fun x hx => strT_byte _ _ _ _ x (hST ▸ hx)
  have rowIn : ∀ {w' : World}, w'.heap[τ]? = some (.cells (ST.map (Value.int .u8)).toArray 5 (0, 0)) → BytesIn w' (some ⟨τ, 0, none⟩) bn ST := fun {w'} h _ => ⟨τ, 0, rfl, fun i hi => by
    have hi' : i < ST.length := by omega
    simp only [World.cell?, h, Option.isSome_none, Bool.false_eq_true, if_false, Nat.zero_add, List.getElem?_toArray, List.getElem?_map, List.getElem?_eq_getElem hi', Option.map_some, List.getD_eq_getElem?_getD, Option.getD_some]⟩
  rw [← hST] at hτc
  have hτc4 := (hl4.heap τ hτlt).trans hτc
  refine (Bes.lone (Post := fun v w1 => ∃ p' c', v = .slice p' 16 c' ∧ BytesIn w1 p' 16 (stL KS NS AS ST) ∧ Below w4.heap.size w4 { w1 with tape := w4.tape }) tameAS (by decide) (by decide) (by intro t _ _; simp [alsS]) (cells_keeps hG hl34.heap) fun θ => ?_).bind fun g w5 h => ?_
  · have h1 := sealTag_any kp np ap (some ⟨τ, 0, none⟩) kc nc an ac bn bn KS NS AS ST (World.ret w4 θ) hK.len hN.len hA.len hSTl (by omega) (by omega) (hK.keeps hl34.heap).into (hN.keeps hl34.heap).into (hA.keeps hl34.heap).into (rowIn hτc4) hK.low hN.low hA.low hSTb hK.cap hN.cap (hP (w' := w4) hl34)
    have hle : ttN an bn ≤ 4000 := by
      have := fillN_lt an
      have := fillN_lt bn
      unfold ttN
      omega
    have h16 : tagN 32 (ttN an bn) = 16 := if_pos ⟨rfl, hle⟩
    rw [h16] at h1
    refine h1.mono fun ex w1 ⟨p', c', h2, h3, h4⟩ => ⟨_, h2, p', c', rfl, h3.bytes, ⟨h4.os, rfl, h4.output, h4.size, h4.block⟩⟩
  obtain ⟨v, τ5, d5, rfl, ⟨p', c', rfl, hb5, hbel⟩, hG5, hz5, ht5⟩ := h
  have hl45 : Lay w4 w5 := ⟨hbel.block, hz5, hbel.os, hbel.output, ht5⟩
  have hb5' : BytesIn w5 p' 16 (stL KS NS AS ST) := hb5
  have hl35 : Lay w w5 := hl34.on hl45
  have hstl : (stL KS NS AS ST).length = 16 := by
    unfold stL
    have h32 : ((blkL KS 0 NS).take 32).length = 32 := by
      rw [List.length_take, blkL_length, hK.len, hN.len]
      decide
    rw [tagL_length, h32, ttL_length, hA.len, hSTl]
    refine if_pos ⟨rfl, ?_⟩
    have := fillN_lt an
    have := fillN_lt bn
    unfold ttN
    omega
  refine (Bes.of_co (Sh := fun _ => False) (M := fun b => b < w5.heap.size) (Stop := fun _ g w6 => Lay w5 w6 ∧ ∃ β, w5.heap.size ≤ β ∧ w6.heap[β]? = some (.cells #[.slice (some ⟨τ, 0, none⟩) bn bn, .slice p' 16 c'] 22 (0, 0)) ∧
      g = G (Frame.enter Tryd.prog 27 #[.slice (some ⟨β, 0, none⟩) 2 2] .normal) (catE (.slice kp 32 kc) (.slice np 12 nc) (.slice ap an ac) bp bn bc R O (.slice (some ⟨τ, 0, none⟩) bn bn) (.slice p' 16 c') β undef [7, 8, 9] :: c :: cs))
    (seal_third _ _ _ bp bn bc R O (some ⟨τ, 0, none⟩) p' bn bn 16 c' (c :: cs) (fun b h => h) (fun w1 hk1 => .stop fun w6 hk6 => ⟨⟨fun b hb => ?_, ?_, hk6.os.trans hk1.os, hk6.output.trans hk1.output, hk6.tape.trans hk1.tape⟩, w1.heap.size, hk1.size, (hk6.heap _ (.inr rfl)).trans ?_, rfl⟩)) (fun b h => h) fun _ g w6 h _ => h).bind fun g w6 ⟨hl6, β, hβ, hβc, hg⟩ => ?_
  · have hb1 : b < w1.heap.size := Nat.lt_of_lt_of_le hb hk1.size
    rw [hk6.heap b (.inl hb), ← hk1.heap b hb]
    show (w1.heap.push _)[b]? = _
    rw [Array.getElem?_push_lt hb1, ← Array.getElem?_eq_getElem hb1]
  · have h1 := hk6.size
    have h2 : (w1.heap.push (.cells #[.slice (some ⟨τ, 0, none⟩) bn bn, .slice p' 16 c'] 22)).size = w1.heap.size + 1 := by simp
    have h3 := hk1.size
    have h4 : w1.heap.size + 1 ≤ w6.heap.size := h2 ▸ h1
    omega
  · show (w1.heap.push _)[w1.heap.size]? = _
    simp
  subst hg
  have hl36 : Lay w w6 := hl35.on hl6
  have z6 := hl6.size
  have hτc6 : w6.heap[τ]? = some (.cells (ST.map (Value.int .u8)).toArray 5 (0, 0)) := (hl6.heap τ (by omega)).trans ((hl45.heap τ (by omega)).trans hτc4)
  have hin6 : BytesIn w6 p' 16 (stL KS NS AS ST) := fun h0 => by
    obtain ⟨b, o, hp, hc⟩ := hb5' h0
    refine ⟨b, o, hp, fun i hi => ?_⟩
    have h1 := hc i hi
    have h2 := World.block_lt_of_cell? _ _ h1
    simp only [World.cell?] at h1 ⊢
    rw [hl6.heap b h2]
    exact h1
  obtain ⟨ROW, hROW⟩ : ∃ ROW, ROW = seaL KS NS AS BS := ⟨_, rfl⟩
  have hsea : ROW = ST ++ stL KS NS AS ST := by rw [hROW, hST]; rfl
  refine (Bes.lone (Post := fun v w1 => ∃ rc, v = .slice (some ⟨w6.heap.size, 0, none⟩) (bn + 16) rc ∧ bn + 16 ≤ rc ∧ rc ≤ maxLen ∧ w1.heap[w6.heap.size]? = some (.cells (ROW.map (Value.int .u8) ++ zerV (rc - (bn + 16))).toArray 5 (0, 0)) ∧ Below w6.heap.size w6 { w1 with tape := w6.tape }) tameAS (by decide) (by decide) (by intro t _ _; simp [alsS]) (cells_keeps hG hl36.heap) fun θ => ?_).bind fun g w7 h => ?_
  · have h1 := concat_cap β 2 (fun k => if k = 0 then some ⟨τ, 0, none⟩ else p') (fun k => if k = 0 then bn else 16) (fun k => if k = 0 then bn else c') (fun k => if k = 0 then ST else stL KS NS AS ST) (World.ret w6 θ) (by omega)
      (fun k hk => by
        have hc : (World.ret w6 θ).heap[β]? = some (.cells #[.slice (some ⟨τ, 0, none⟩) bn bn, .slice p' 16 c'] 22 (0, 0)) := hβc
        match k, hk with
        | 0, _ => simp [World.cell?, hc]
        | 1, _ => simp [World.cell?, hc])
      (fun k hk => by match k, hk with | 0, _ => exact hSTl | 1, _ => exact hstl)
      (fun k hk => by match k, hk with | 0, _ => exact rowIn hτc6 | 1, _ => exact hin6)
      (by simp [sumN]) (by simp [sumN]; omega)
    have e1 : sumN (fun k => if k = 0 then bn else 16) 2 = bn + 16 := by simp [sumN]
    have e2 : catL (fun k => if k = 0 then ST else stL KS NS AS ST) 2 = ROW := by rw [hsea]; simp [catL]
    rw [e1, e2] at h1
    exact h1.mono fun ex w1 ⟨ans, h2, h3, h4, h5⟩ => ⟨_, h2, _, rfl, h3, cap_le _ _ (by omega), h4, ⟨h5.os, rfl, h5.output, h5.size, h5.block⟩⟩
  obtain ⟨v, τ7, d7, rfl, ⟨rc, rfl, hrc, hrcm, hrow, hbel7⟩, _, hz7, ht7⟩ := h
  have hl67 : Lay w6 w7 := ⟨hbel7.block, hz7, hbel7.os, hbel7.output, ht7⟩
  have hl37 : Lay w w7 := hl36.on hl67
  have hrow' : w7.heap[w6.heap.size]? = some (.cells (ROW.map (Value.int .u8) ++ zerV (rc - (bn + 16))).toArray 5 (0, 0)) := hrow
  have hl47 : Lay w3 w7 := ((hl4.on hl45).on hl6).on hl67
  have hγlt : w6.heap.size < w7.heap.size := (Array.getElem?_eq_some_iff.1 hrow').1
  refine Bes.of_co (Sh := fun _ => False) (M := fun b => b < w7.heap.size) (Stop := fun _ g w9 => SealTo 32 12 an bn KS NS AS BS c cs w g w9)
    (seal_fourth _ _ _ bp bn bc R O _ _ β w6.heap.size (bn + 16) rc _ _ _ c cs hrow' (fun v hv => ?_) ((hl47.heap R (by omega)).trans hRc3) ((hl47.heap O (by omega)).trans hOc3) (by omega) (by omega) (by omega) (by omega) (by omega) hγlt (fun b h => h.elim) (fun b h => h.elim) (fun b h => h)
      (fun w8 hk8 hz8 hos8 hout8 htp8 => .stop fun w9 hk9 => ⟨⟨fun b hb => ?_, ?_, hk9.os.trans (hos8.trans hl37.os), hk9.output.trans (hout8.trans hl37.output), hk9.tape.trans (htp8.trans hl37.tape)⟩, .inr ⟨hok, w6.heap.size, rc, by omega, hrc, hrcm, rfl, ?_⟩⟩)) (fun b h => h) fun _ g w9 h _ => h
  · rw [List.mem_toArray, List.mem_append] at hv
    rcases hv with hv | hv
    · obtain ⟨x, _, rfl⟩ := List.mem_map.1 hv
      rfl
    · rw [(List.mem_replicate.1 hv).2]
      rfl
  · have h7 : b < w7.heap.size := Nat.lt_of_lt_of_le hb hl37.size
    rw [hk9.heap b h7, hk8 b h7 (by omega) (by omega)]
    exact hl37.heap b hb
  · have h1 := hk9.size
    have h2 := hl37.size
    omega
  · rw [hk9.heap _ hγlt, hk8 _ hγlt (by omega) (by omega), ← hROW]
    exact hrow'
end Go.Proofs.YthjapmdikbmmkaaDoor
namespace Go.Proofs.YthjapmdikbmmkaaDoor
open Go.RowKit
set_option maxRecDepth 100000
theorem below_drewS {a w : World} (h : Below a.heap.size a w) : Below a.heap.size a w.drew := h.drew
set_option maxHeartbeats 4000000 in
theorem l7Tag_any (kp np ap sp : Option Addr) (kc nc an ac sn sc : Nat) (ks ns es ss : List Int) (w : World) (hk : ks.length = 32) (hn : ns.length = 12) (ha : es.length = an) (hs : ss.length = sn) (han : an ≤ 1048576) (hsn : sn ≤ 1048576) (ik : BytesIn w kp 32 ks) (im : BytesIn w np 12 ns) (ia : BytesIn w ap an es) (is : BytesIn w sp sn ss)
    (bk : ∀ x ∈ ks, 0 ≤ x ∧ x < 256) (bn : ∀ x ∈ ns, 0 ≤ x ∧ x < 256) (ba : ∀ x ∈ es, 0 ≤ x ∧ x < 256) (bs : ∀ x ∈ ss, 0 ≤ x ∧ x < 256) :
    Calls Tryd.prog 30 #[.slice kp 32 kc, .slice np 12 nc, .slice ap an ac, .slice sp sn sc] w fun e w' => ∃ p' c', e = .returned (.slice p' (tagN 32 (ttN an sn)) c') ∧ Own 5 w' w.heap.size w'.heap.size (.slice p' (tagN 32 (ttN an sn)) c') (tagN 32 (ttN an sn)) (stL ks ns es ss) ∧ Below w.heap.size w w' := by
  unfold stL
  have C1 := fun X (hX : Below w.heap.size w X) => specBlk_any kp np 32 12 kc nc 0 ks ns X hk hn (in_below ik hX) (in_below im hX) bk bn
  have e64 : blkN 32 12 0 = 64 := by decide
  have hbl : (blkL ks 0 ns).length = 64 := by rw [blkL_length, hk, hn, e64]
  have hbb : ∀ x ∈ blkL ks 0 ns, 0 ≤ x ∧ x < 256 := blkL_byte ks 0 ns
  simp only [e64] at C1
  have C2 := fun X (hX : Below w.heap.size w X) => specTagText_any ap sp an sn ac sc es ss X han hsn ha hs (in_below ia hX) (in_below is hX)
  have htl : (ttL es ss).length = ttN an sn := by rw [ttL_length, ha, hs]
  have htb := ttL_byte ba bs
  generalize blkL ks 0 ns = BL at C1 hbl hbb ⊢
  generalize ttL es ss = TL at C2 htl htb ⊢
  generalize ttN an sn = TN at C2 htl ⊢
  obtain ⟨A, hA⟩ : ∃ A, A = BL.take 32 := ⟨_, rfl⟩
  have hAl : A.length = 32 := by rw [hA, List.length_take, hbl]; rfl
  have hAb : ∀ x ∈ A, 0 ≤ x ∧ x < 256 := fun x hx => hbb x (List.mem_of_mem_take (hA ▸ hx))
  rw [← hA]
  have HA : Hid (A = BL.take 32) := hA
  clear ik im ia is bk bn ba bs hk hn ha hs e64 hA hbb hbl han hsn
  go_enter Tryd.func30, Tryd.ntmps30
  go_wp2_with (fail)
  go_region_held3 (fun _ => True) (trivial) (first
    | (go_at_call 50; refine (C1 _ (by repeat (with_reducible (first | exact Below.refl _ _ | refine below_drewS ?_ | refine below_on ?_ bb)))).mono ?_; rintro e wa ⟨p1, c1, rfl, ra, ba⟩; have hc1 := ra.cap; have ra1 := ra.take (k := 32) (by omega); rw [← HA.out] at ra1; obtain ⟨g, o, rfl, _⟩ := ra.bytes (by omega); have hc2 : (32 : Int) ≤ (c1 : Int) := by omega)
    | (go_at_call 16; refine (C2 _ (by repeat (with_reducible (first | exact Below.refl _ _ | refine below_drewS ?_ | refine below_on ?_ ba)))).mono ?_; rintro e wb ⟨p2, c2, rfl, rb, bb⟩)
    | (go_at_call 52; refine (specTag_any (some ⟨g, o, none⟩) p2 32 TN c1 c2 A TL _ hAl htl (in_below ra1.bytes (by repeat (with_reducible (first | exact Below.refl _ _ | refine below_drewS ?_ | refine below_on ?_ bb)))) (in_below rb.bytes (by repeat (with_reducible (first | exact Below.refl _ _ | refine below_drewS ?_ | refine below_on ?_ ba)))) hAb htb (by omega) rb.cap).mono ?_; rintro e wc ⟨p3, c3, rfl, rc, bc⟩))
  all_goals
    go_wp2
    go_ret
    first
      | exact ⟨_, _, rfl, ⟨owns_mono rc.1 (below_on (below_on (below_drewS (Below.refl _ _)) ba) bb).size, rc.2⟩, below_on (below_on (below_on (below_drewS (Below.refl _ _)) ba) bb) bc⟩
      | exact ⟨_, _, rfl, ⟨owns_mono rc.1 (below_on (below_on (below_drewS (Below.refl _ _)) bb) ba).size, rc.2⟩, below_on (below_on (below_on (below_drewS (Below.refl _ _)) bb) ba) bc⟩
theorem sea_length {KS NS AS BS : List Int} {an bn : Nat} (hK : KS.length = 32) (hN : NS.length = 12) (hA : AS.length = an) (hB : BS.length = bn) (han : an ≤ 1500) (hbn : bn ≤ 1500) : (stL KS NS AS (strT KS 1 NS BS)).length = 16 := by
  unfold stL
  have h32 : ((blkL KS 0 NS).take 32).length = 32 := by
    rw [List.length_take, blkL_length, hK, hN]
    decide
  rw [tagL_length, h32, ttL_length, hA, strT_length, hB]
  refine if_pos ⟨rfl, ?_⟩
  have := fillN_lt an
  have := fillN_lt bn
  unfold ttN
  omega
set_option maxHeartbeats 4000000 in
theorem specSeal_yes (kp np ap bp : Option Addr) (kc nc an ac bn bc : Nat) (KS NS AS BS : List Int) (w : World) (hK : KS.length = 32) (hN : NS.length = 12) (hA : AS.length = an) (hB : BS.length = bn) (han : an ≤ 1500) (hbn : bn ≤ 1500) (hbc : bn ≤ bc) (ik : BytesIn w kp 32 KS) (im : BytesIn w np 12 NS) (ia : BytesIn w ap an AS) (ib : BytesIn w bp bn BS)
    (bk : ∀ x ∈ KS, 0 ≤ x ∧ x < 256) (bm : ∀ x ∈ NS, 0 ≤ x ∧ x < 256) (ba : ∀ x ∈ AS, 0 ≤ x ∧ x < 256) :
    Calls Tryd.prog 9 #[.slice kp 32 kc, .slice np 12 nc, .slice ap an ac, .slice bp bn bc] w fun e w' => ∃ p' c', e = .returned (.tuple #[.slice p' (bn + 16) c', .bool true]) ∧ Own 5 w' w.heap.size w'.heap.size (.slice p' (bn + 16) c') (bn + 16) (seaL KS NS AS BS) ∧ Below w.heap.size w w' := by
  obtain ⟨i0, hi, hz0, hz1, hz2⟩ := info_parts infoByte
  have hgood : GoodT KS.length NS.length BS.length 1 := ⟨hK, hN, by omega, by omega, by omega⟩
  have C1 := specStr_any kp np bp 32 12 bn kc nc bc 1 KS NS BS w hbc hK hN hB ik im ib bk bm
  rw [good_ok hgood] at C1
  have hsl := sea_length hK hN hA hB han hbn
  have hle : ttN an bn ≤ 4000 := by
    have := fillN_lt an
    have := fillN_lt bn
    unfold ttN
    omega
  have h16 : tagN 32 (ttN an bn) = 16 := if_pos ⟨rfl, hle⟩
  have HS : Hid (seaL KS NS AS BS = strT KS 1 NS BS ++ stL KS NS AS (strT KS 1 NS BS)) := rfl
  have C2 := fun (p : Option Addr) (c : Nat) (X : World) (hX : Below w.heap.size w X) (hp : BytesIn X p bn (strT KS 1 NS BS)) => l7Tag_any kp np ap p kc nc an ac bn c KS NS AS (strT KS 1 NS BS) X hK hN hA (by rw [strT_length]; exact hB) (by omega) (by omega) (in_below ik hX) (in_below im hX) (in_below ia hX) hp bk bm ba (strT_byte _ _ _ _)
  simp only [h16] at C2
  have hTl : (strT KS 1 NS BS).length = bn := by rw [strT_length]; exact hB
  generalize seaL KS NS AS BS = RR at HS ⊢
  generalize stL KS NS AS (strT KS 1 NS BS) = TT at C2 HS hsl
  generalize strT KS 1 NS BS = ST at C1 C2 HS hTl
  clear ik im ia ib bk bm ba hgood hle h16 hK hN hA hB
  have HTl : Hid (ST.length = bn) := hTl
  clear hTl
  have han' : (an : Int) ≤ 1500 := by omega
  have hbn' : (bn : Int) ≤ 1500 := by omega
  go_enter Tryd.func9, Tryd.ntmps9
  go_wp2_with (fail)
  refine C1.mono ?_
  rintro e w1 ⟨p1, L, c1, rfl, r1, b1⟩
  obtain rfl : L = bn := by
    have := r1.1.1
    rw [List.length_map, HTl.out] at this
    omega
  have i1 := r1.bytes
  clear C1
  go_wp2_with (fail)
  refine (C2 p1 c1 _ b1 i1).mono ?_
  rintro e w2 ⟨p2, c2, rfl, r2, b2⟩
  have o2 := owns_below r1.1 b2
  have bb2 := below_on b1 b2
  have i2 := r2.bytes
  have hs2 := bb2.size
  clear C2 r1 r2 b1 b2 i1
  go_wp2_with (at_builtin; refine list_spreadA hi hz0 hz1 hz2 (.tmp 34) (.tmp 39) 22 Tryd.underlying22 o2 i2 hsl (by omega) (by omega) hs2 (by rfl) (by rfl) (by rfl) (by rfl) ?_; intro p3 c3 w3 o3 b3)
  go_ret2
  rw [HS.out]
  exact ⟨_, _, rfl, .of o3, bb2.trans b3⟩
def TagIs (f : Nat) : Prop := ∀ (p q : Option Addr) (n m c d : Nat) (ks bs : List Int) (w : World), ks.length = n → bs.length = m → BytesIn w p n ks → BytesIn w q m bs → (∀ x ∈ ks, 0 ≤ x ∧ x < 256) → (∀ x ∈ bs, 0 ≤ x ∧ x < 256) → n ≤ c → m ≤ d →
    Calls Tryd.prog f #[.slice p n c, .slice q m d] w fun e w' => ∃ p' c', e = .returned (.slice p' (tagN n m) c') ∧ Own 5 w' w.heap.size w'.heap.size (.slice p' (tagN n m) c') (tagN n m) (tagL ks bs) ∧ Below w.heap.size w w'
theorem tagL_byte (ks bs : List Int) : ∀ y ∈ tagL ks bs, 0 ≤ y ∧ y < 256 := by
  intro y hy
  unfold tagL at hy
  split at hy
  · simp only [tagB, List.mem_map] at hy
    obtain ⟨i, _, rfl⟩ := hy
    omega
  · cases hy
end Go.Proofs.YthjapmdikbmmkaaDoor
namespace Go.Proofs.YthjapmdikbmmkaaDoor
open Go Go.Conc Go.RowKit
set_option maxRecDepth 100000
structure Gr (C : Array Value) (e : TypeId) (w : World) : Prop where
  tab : TableIn C e w
  flat : ∀ v ∈ C, flatC v = true
  pl : ∀ (j : Nat) v, placesC[j]? = some v → C[j]? = some v
  cells : CellsTo Tryd.prog.globals.size w
theorem Gr.on {C : Array Value} {e : TypeId} {w w1 : World} (h : Gr C e w) (hl : Below w.heap.size w w1) : Gr C e w1 := ⟨by
  obtain ⟨lo, hi, h1, h2⟩ := h.tab
  exact ⟨lo, hi, (hl.block _ (Array.getElem?_eq_some_iff.1 h1).1).trans h1, h2⟩, h.flat, h.pl, cells_keeps h.cells hl.block⟩
theorem cells_le {n : Nat} {w : World} (h : CellsTo n w) : n ≤ w.heap.size := by
  cases n with
  | zero => exact Nat.zero_le _
  | succ n =>
    obtain ⟨o, h1, _⟩ := h n (Nat.lt_succ_self n)
    exact (Array.getElem?_eq_some_iff.1 h1).1
def LawDone (f : FuncId) (t : Nat) (W : World) (g : Goroutine) (w1 : World) : Prop := ∃ frE : Frame, g = G frE [] ∧ frE.mode = .returning ∧ frE.fn = f ∧ frE.defers = [] ∧ frE.kind = .normal ∧ frE.tmps.getD t undef = .bool true ∧ Lay W w1
def See (e : Nat) (w : World) (lo hi : Nat) (v : Value) (n : Nat) (xs : List Int) : Prop := (n = 0 ∧ xs.length = 0) ∨ Own e w lo hi v n xs
section
variable {e : Nat} {w w' : World} {lo hi lo' hi' : Nat} {u v : Value} {n m : Nat} {xs ys : List Int}
theorem Own.see (h : Own e w lo hi v n xs) : See e w lo hi v n xs := .inr h
theorem See.on (h : See e w lo hi v n xs) (hb : Below w.heap.size w w') : See e w' lo hi v n xs := h.imp id fun h => h.on hb
theorem See.len (h : See e w lo hi v n xs) : xs.length = n := h.elim (fun ⟨a, b⟩ => by omega) fun h => h.len
theorem See.bytes {p : Option Addr} {c : Nat} (h : See e w lo hi (.slice p n c) n xs) : BytesIn w p n xs := h.elim (fun ⟨a, b⟩ h0 => by omega) fun h => h.bytes
theorem See.ret (h : See e w lo hi v n xs) (θ : Nat → Question → Nat) : See e (World.ret w θ) lo hi v n xs := h
theorem See.like {w1 : World} (h : See e w lo hi v n xs) (l : Like w w1) : See e w1 lo hi v n xs := h.imp id fun h => h.like l
theorem Own.tee {p : Option Addr} {c : Nat} (h : Own e w lo hi (.slice p n c) n xs) (hb : ∀ x ∈ xs, 0 ≤ x ∧ x < 256) : BytesT w p n c xs := ⟨h.len, h.cap, hb, fun h0 => by
  obtain ⟨b, o, e1, hc⟩ := h.bytes h0
  refine ⟨b, o, e1, fun j u hj => ?_⟩
  have hj' := (List.getElem?_eq_some_iff.1 hj).1
  have hl := h.len
  have := hc j (by omega)
  rw [List.getD_eq_getElem?_getD, hj] at this
  exact this⟩
theorem Own.low (h : Own e w lo hi v n xs) {lo' : Nat} (hl : lo' ≤ lo) : Own e w lo' hi v n xs := by
  obtain ⟨⟨h1, h2⟩, h3⟩ := h
  exact ⟨⟨h1, h2.imp id fun ⟨g, cap, cur, e1, h4, h5⟩ => ⟨g, cap, cur, e1, Nat.le_trans hl h4, h5⟩⟩, h3⟩
end
theorem seaL_length {KS NS AS BS : List Int} {an bn : Nat} (hK : KS.length = 32) (hN : NS.length = 12) (hA : AS.length = an) (hB : BS.length = bn) (han : an ≤ 1500) (hbn : bn ≤ 1500) : (seaL KS NS AS BS).length = bn + 16 := by
  rw [seaL, List.length_append, strT_length, hB, sea_length hK hN hA hB han hbn]
theorem seaL_low (KS NS AS BS : List Int) : ∀ x ∈ seaL KS NS AS BS, 0 ≤ x ∧ x < 256 := fun x hx => (List.mem_append.1 hx).elim (strT_byte _ _ _ _ x) (tagL_byte _ _ x)
theorem row_owns {u : World} {γ n rc : Nat} {xs : List Int} (h : u.heap[γ]? = some (.cells (xs.map (Value.int .u8) ++ zerV (rc - n)).toArray 5 (0, 0))) (hn : n ≤ rc) (hm : rc ≤ maxLen) (hl : xs.length = n) : u.ownsRow γ 5 1 (.slice (some ⟨γ, 0, none⟩) n rc) n (xs.map (Value.int .u8)) :=
  ⟨by simp [hl], .inr ⟨γ, rc, _, rfl, Nat.le_refl _, h, hn, hm, by simp [zerV, hl]; omega, by
    rw [Nat.mul_one, List.take_append_of_le_length (by simp [hl])]
    exact List.take_of_length_le (by simp [hl])⟩⟩
theorem BCalls.row {Al : Als} (T : TameA Tryd.prog Al) {f : FuncId} {x : Array Value} {n : Nat} {xs : List Int} {w : World} (hf : Al f = true) (hb : Al.b f = false) (hx : ∀ t, t < x.size → t < 200 → Al.f f t = false)
    (hC : ∀ θ w1, Below (World.ret w θ).heap.size (World.ret w θ) w1 → Calls Tryd.prog f x w1 fun e w2 => ∃ p c, e = .returned (.slice p n c) ∧ Own 5 w2 w1.heap.size w2.heap.size (.slice p n c) n xs ∧ Below w1.heap.size w1 w2) :
    BCalls Tryd.prog f x w fun v w2 => ∃ p c, v = .slice p n c ∧ Own 5 w2 w.heap.size w2.heap.size (.slice p n c) n xs ∧ Below w.heap.size w w2 :=
  BCalls.lone T hf hb hx fun θ w1 h1 => (hC θ w1 h1).mono fun e w2 ⟨p, c, h2, ho, h3⟩ => ⟨_, h2, fun w3 l t => ⟨p, c, rfl, by
    have ho' := (ho.like l).low (lo' := w.heap.size) h1.size
    obtain ⟨τ, d, rfl⟩ := l
    exact ho', l.below (θ := θ) t (below_on h1 h3)⟩⟩
def sealN (kn nn an bn : Nat) : Nat := if kn = 32 ∧ nn = 12 ∧ an ≤ 1500 ∧ bn ≤ 1500 then bn + 16 else 0
def sealB (kn nn an bn : Nat) : Bool := decide (kn = 32 ∧ nn = 12 ∧ an ≤ 1500 ∧ bn ≤ 1500)
def sealX (kn nn an bn : Nat) (KS NS AS BS : List Int) : List Int := if kn = 32 ∧ nn = 12 ∧ an ≤ 1500 ∧ bn ≤ 1500 then seaL KS NS AS BS else []
theorem sizes_iff (kn nn an bn : Nat) : SizesOk kn nn an bn ↔ kn = 32 ∧ nn = 12 ∧ an ≤ 1500 ∧ bn ≤ 1500 := ⟨fun ⟨a, b, c, _, d⟩ => ⟨a, b, c, by omega⟩, fun ⟨a, b, c, d⟩ => ⟨a, b, c, by omega, by omega⟩⟩
theorem sealN_le (kn nn an bn : Nat) : sealN kn nn an bn ≤ 1516 := by
  unfold sealN
  split
  · omega
  · omega
theorem implSeal_b (kp np ap bp : Option Addr) (kn kc nn nc an ac bn bc : Nat) (KS NS AS BS : List Int) (C : Array Value) (e : TypeId) (w : World) (hg : Gr C e w) (hK : BytesT w kp kn kc KS) (hN : BytesT w np nn nc NS) (hA : BytesT w ap an ac AS) (hB : BytesT w bp bn bc BS) :
    BCalls Tryd.prog 8 #[.slice kp kn kc, .slice np nn nc, .slice ap an ac, .slice bp bn bc] w fun v w2 => ∃ p c, v = .tuple #[.slice p (sealN kn nn an bn) c, .bool (sealB kn nn an bn)] ∧ Own 5 w2 w.heap.size w2.heap.size (.slice p (sealN kn nn an bn) c) (sealN kn nn an bn) (sealX kn nn an bn KS NS AS BS) ∧ Below w.heap.size w w2 := fun Q fr cs h w1 hG hl => by
  have g1 := hg.on hl
  refine (seal_bes kp np ap bp kn kc nn nc an ac bn bc KS NS AS BS fr cs C e w1 (hK.keeps hl.block) (hN.keeps hl.block) (hA.keeps hl.block) (hB.keeps hl.block) g1.tab g1.flat g1.pl g1.cells).bind fun g w2 ⟨hl2, h'⟩ => ?_
  have hG2 := cells_keeps hG hl2.heap
  have hb2 := below_on hl hl2.below
  rcases h' with ⟨hno, rfl⟩ | ⟨hok, γ, rc, h1, h2, h3, rfl, h5⟩
  · rw [sizes_iff] at hno
    refine h _ w2 ⟨none, 0, ?_, ?_, hb2⟩ w2 hG2 (.refl _ _)
    · simp only [sealN, sealB, if_neg hno, decide_eq_false hno]
    · simp only [sealN, sealX, if_neg hno]
      exact .of (World.ownsRow_nil w2 _ 5 1)
  · rw [sizes_iff] at hok
    refine h _ w2 ⟨some ⟨γ, 0, none⟩, rc, ?_, ?_, hb2⟩ w2 hG2 (.refl _ _)
    · simp only [sealN, sealB, if_pos hok, decide_eq_true hok]
    · simp only [sealN, sealX, if_pos hok]
      have hlen : (seaL KS NS AS BS).length = bn + 16 := seaL_length (hK.len.trans hok.1) (hN.len.trans hok.2.1) hA.len hB.len hok.2.2.1 hok.2.2.2
      exact Own.low (.of (row_owns h5 h2 h3 hlen)) (Nat.le_trans hl.size h1)
end Go.Proofs.YthjapmdikbmmkaaDoor
