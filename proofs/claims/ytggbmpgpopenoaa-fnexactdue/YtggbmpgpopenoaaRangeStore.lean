/-
  A store at a key that is there, inside a range over that map. Conditions: the key is there.
-/
import Derived.Test.YtggbmpgpopenoaaMapW
namespace Go.Proofs.Ytggbmpgpopenoaa
open Go Go.ChangeMaps Go.MapKept Go.WideShapes
set_option maxRecDepth 100000
open Go.WideElems (Fit rd rg pl rd_key rd_val rg_of other_key rd_mk)
open Go.Maps (Keyed)

theorem setBlock_inj {w : World} {b : Nat} {x y : Obj} (hb : b < w.heap.size) (h : setBlock w b x = setBlock w b y) : x = y := by
  have e := congrArg (fun W : World => W.heap[b]?) h
  have h1 : ∀ o, (setBlock w b o).heap[b]? = some o := fun o => by simp [setBlock, hb]
  simp only [h1] at e
  exact Option.some.inj e

theorem ranges_store {H : Type} {P : Program} {k t e : TypeId} {R : Value → Option (DataW H × List MemPlace)} {w : World} {b r n : Nat} {D : DataW H} {left : Lit → Bool} {cnt : Nat} (h : w.ranges P k R b r n D left cnt) (K : Keyed P k) (ht : P.underlying t = some (.map k e)) (hn : n < maxLen)
    {key val : Value} {kl : Lit} {d : DataW H} {ps : List MemPlace} (hkey : keyOf P k key = some kl) (hv : R val = some (d, ps)) (hthere : Maps.has D kl = true) :
    ∃ w', (Instr.mapUpdate t (.map (some b)) key val).run P w = .ok () w' ∧ w'.ranges P k R b r n (D.put kl d) left cnt ∧ w.mapTurned w' b := by
  have hne := h.ne
  obtain ⟨es, clock, since, seen, c0, hb, F, hs, rfl, hr, hold, rfl, hl1, hl2, hsc, hsk⟩ := h
  have hbl : b < w.heap.size := (Array.getElem?_eq_some_iff.1 hb).1
  obtain ⟨es', clock', hrun, F', hput, _⟩ := Maps.fit_store (R' := R) K ht hb F (Nat.lt_of_le_of_lt hs hn) (fun _ _ _ _ hz => hz) hkey hv
  rcases K.find w hkey es.toList F.keys with ⟨h1, h2⟩ | ⟨j, e0, h1, h2, h3⟩
  · exfalso
    obtain ⟨p, hp, hpk⟩ := List.any_eq_true.1 hthere
    obtain ⟨x, hx, rfl⟩ := List.mem_map.1 (mem_sorted.1 hp)
    obtain ⟨y, hy⟩ := F.reads x hx
    refine h2 x hx ?_
    have e1 := WideAt.sameKey_eq hpk
    rw [rg_of hy] at e1
    exact K.inj (e1 ▸ rd_key hy) hkey
  · have hj : es[j]? = some e0 := by simpa using h2
    have he0 : e0 ∈ es.toList := List.mem_of_getElem? h2
    have hjl : j < es.toList.length := (List.getElem?_eq_some_iff.1 h2).1
    have hrun2 : (Instr.mapUpdate t (.map (some b)) key val).run P w = .ok () (setBlock w b (.map (es.modify j (fun e' => { e' with key := key, val := val })) clock)) := by
      simp [Instr.mapUpdate, run_underlying ht, MapKept.run_getObj_map hb, K.check w false hkey, h1, hj, h3, K.stays w hkey, MapKept.run_setObj_map _ hb, Result.andThen, setBlock]
    rw [hrun2] at hrun
    simp only [Result.ok.injEq, true_and] at hrun
    have hobj := setBlock_inj hbl hrun
    simp only [Obj.map.injEq] at hobj
    obtain ⟨rfl, rfl⟩ := hobj
    have hlist : (es.modify j (fun e' => { e' with key := key, val := val })).toList = es.toList.set j { e0 with key := key, val := val } := by
      rw [Array.toList_modify]
      exact modify_eq_set _ _ _ _ h2
    have hborn : (es.modify j (fun e' => { e' with key := key, val := val })).toList.map MapEntry.born = es.toList.map MapEntry.born := by
      rw [hlist, List.map_set]
      apply List.ext_getElem?
      intro i
      rw [List.getElem?_set]
      split
      · rename_i e
        subst e
        rw [List.length_map, if_pos hjl, List.getElem?_map, h2]
        rfl
      · rfl
    have who : ∀ x ∈ (es.modify j (fun e' => { e' with key := key, val := val })).toList, x = { e0 with key := key, val := val } ∨ x ∈ es.toList := by
      intro x hx
      rw [hlist] at hx
      rcases List.mem_or_eq_of_mem_set hx with h | h
      · exact .inr h
      · exact .inl h
    have hnew : ({ e0 with key := key, val := val } : MapEntry) ∈ (es.modify j (fun e' => { e' with key := key, val := val })).toList := by
      rw [hlist]
      exact List.mem_iff_getElem.2 ⟨j, by simpa using hjl, by simp⟩
    have kNew : (rg P k R { e0 with key := key, val := val }).1 = kl := by rw [rg_of (rd_mk hkey hv)]
    have kOld : ∀ x ∈ es.toList, x.key = key → (rg P k R x).1 = kl := fun x hx hk => by
      obtain ⟨y, hy⟩ := F.reads x hx
      have m1 := rd_key hy
      rw [hk, hkey] at m1
      rw [rg_of hy, Option.some.inj m1]
    have stays : ∀ x ∈ es.toList, x.key ≠ key → x ∈ (es.modify j (fun e' => { e' with key := key, val := val })).toList := fun x hx hk => by
      rw [hlist]
      obtain ⟨i, hi⟩ := List.getElem?_of_mem hx
      refine List.mem_of_getElem? (i := i) ?_
      rw [List.getElem?_set_ne (fun e1 => ?_)]
      · exact hi
      · subst e1
        rw [h2] at hi
        cases hi
        exact hk h3
    refine ⟨_, hrun2, ⟨_, clock, since, seen, c0, heap_setBlock_same hb _, F', by simpa using hs, by rw [DataW.put_eq, hput], (heap_setBlock_other hb _ hne).trans hr, fun x hx => ?_, ?_, fun x hx => ?_, fun k0 hk0 => ?_, hsc, hsk⟩, ⟨es, clock, _, clock, hb, rfl⟩⟩
    · rcases who x hx with rfl | hx'
      · exact hold e0 he0
      · exact hold x hx'
    · have e1 : ∀ a : Array MapEntry, (leftOf a seen).size = ((a.toList.map MapEntry.born).filter fun n => !seen.contains n).length := fun a => by
        unfold leftOf
        rw [List.filter_map, List.length_map, ← Array.length_toList, Array.toList_filter]
        rfl
      rw [e1, e1, hborn]
    · rcases who x hx with rfl | hx'
      · rw [kNew, ← kOld e0 he0 h3]
        exact hl1 e0 he0
      · exact hl1 x hx'
    · obtain ⟨x, hx, rfl⟩ := hl2 k0 hk0
      by_cases hk : x.key = key
      · exact ⟨_, hnew, by rw [kNew, kOld x hx hk]⟩
      · exact ⟨x, stays x hx hk, rfl⟩

end Go.Proofs.Ytggbmpgpopenoaa
