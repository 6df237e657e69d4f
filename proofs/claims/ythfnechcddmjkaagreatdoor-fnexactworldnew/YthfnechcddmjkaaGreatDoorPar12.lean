/-
  A map by texts whose values are taken as they are: what it has of each text. Conditions: none beyond each fact's own.
-/
import Derived.Test.YthfnechcddmjkaaGreatDoorPar03
import Derived.Maps.OwnSet
import Derived.Maps.RangeWalk
import Derived.Maps.Ext
namespace Go.Proofs.YthfnechcddmjkaaGreatDoor
open Go.RowKit
set_option maxRecDepth 100000

def tokR (v : Value) : Option (DataW Value × List MemPlace) := some (.held v, [])
def kl (s : ByteArray) : Lit := .string s.data.toList
theorem kl_inj {s s' : ByteArray} (h : kl s = kl s') : s = s' := by
  simp only [kl, Lit.string.injEq] at h
  exact ByteArray.ext (Array.toList_inj.1 h)
theorem keyedS : Maps.Keyed Tryz.prog 9 := Maps.string_keyed Tryz.underlying9
theorem keyS (s : ByteArray) (h : s.size ≤ 1048576) : keyOf Tryz.prog 9 (.string s) = some (kl s) := Go.WideMaps.keyOf_string_mk Tryz.underlying9 (by unfold maxLen; omega)
theorem zeroRow (w : World) : (zeroValue 161).run Tryz.prog w = .ok (.slice none 0 0) w := by kernel_rfl

def SaysM (D : DataW Value) (m : ByteArray → Option Value) : Prop := ∀ s, (m s = none → ∀ z, D.atKey (kl s) z = z) ∧ ∀ v, m s = some v → ∀ z, D.atKey (kl s) z = .held v
def MapW (w : World) (B n : Nat) (m : ByteArray → Option Value) : Prop := ∃ D : DataW Value, w.ownsMap Tryz.prog 9 tokR B n D ∧ SaysM D m

theorem MapW.made (w : World) : MapW (w.alloc (.map #[] 0)) w.heap.size 0 (fun _ => none) :=
  ⟨.map [], World.ownsMap_made _ _ _ _, fun s => ⟨fun _ z => rfl, fun v h => by cases h⟩⟩
theorem MapW.lt {w : World} {B n : Nat} {m : ByteArray → Option Value} (h : MapW w B n m) : B < w.heap.size := by obtain ⟨D, h, _⟩ := h; exact h.lt
theorem MapW.kept {w w' : World} {B n : Nat} {m : ByteArray → Option Value} {row : Option Nat} (h : MapW w B n m) (hg : w.grownBy w' row) (hne : some B ≠ row) : MapW w' B n m := by
  obtain ⟨D, h, hm⟩ := h
  exact ⟨D, h.kept hg hne, hm⟩
theorem MapW.on {w w' : World} {B n : Nat} {m : ByteArray → Option Value} (h : MapW w B n m) (b : Below w.heap.size w w') : MapW w' B n m :=
  h.kept (row := none) ⟨b.os, b.tape, b.output, b.size, fun k hk _ => b.block k hk⟩ (by simp)
theorem SaysM.get {D : DataW Value} {m : ByteArray → Option Value} (h : SaysM D m) (s : ByteArray) (z : Value) : D.atKey (kl s) (.held z) = .held ((m s).getD z) := by
  cases e : m s with
  | none => exact (h s).1 e _
  | some v => exact (h s).2 v e _
theorem SaysM.has {D : DataW Value} {m : ByteArray → Option Value} (h : SaysM D m) (s : ByteArray) : Maps.has D (kl s) = (m s).isSome := by
  cases e : m s with
  | none => exact Maps.has_false_of_atKey ((h s).1 e)
  | some v => exact Maps.has_true_of_atKey ((h s).2 v e)

theorem MapW.look {w : World} {B n : Nat} {m : ByteArray → Option Value} (h : MapW w B n m) (s : ByteArray) (hs : s.size ≤ 1048576) :
    (Instr.lookup 156 (.map (some B)) (.string s) false).run Tryz.prog w = .ok ((m s).getD (.slice none 0 0)) w := by
  obtain ⟨D, h, hm⟩ := h
  obtain ⟨v, ps, hr, hv⟩ := h.lookup keyedS Tryz.underlying156 (zeroRow w) (zd := .held (.slice none 0 0)) (zp := []) rfl (keyS s hs)
  rw [hm.get s] at hv
  simp only [tokR, Option.some.injEq, Prod.mk.injEq, DataW.held.injEq] at hv
  rw [hr, hv.1]
theorem MapW.store {w : World} {B n : Nat} {m : ByteArray → Option Value} (h : MapW w B n m) (s : ByteArray) (hs : s.size ≤ 1048576) (hn : n ≤ 16777216) (v : Value) :
    ∃ w', (Instr.mapUpdate 156 (.map (some B)) (.string s) v).run Tryz.prog w = .ok () w' ∧ MapW w' B (n + 1) (fun z => if z = s then some v else m z) ∧ w.mapTurned w' B := by
  obtain ⟨D, h, hm⟩ := h
  obtain ⟨w', hr, h', ht⟩ := h.store keyedS Tryz.underlying156 (by unfold maxLen; omega) (keyS s hs) (val := v) (d := .held v) (ps := []) rfl
  refine ⟨w', hr, ⟨_, h', fun z => ?_⟩, ht⟩
  by_cases e : z = s
  · subst e
    refine ⟨fun h0 => by simp at h0, fun u hu y => ?_⟩
    simp only [if_true, Option.some.injEq] at hu
    rw [Maps.atKey_put_same h.isMap (keyedS.key (keyS z hs)), hu]
  · simp only [if_neg e]
    exact ⟨fun h0 y => by rw [Maps.atKey_put_other (fun k => e (kl_inj k))]; exact (hm z).1 h0 y, fun u hu y => by rw [Maps.atKey_put_other (fun k => e (kl_inj k))]; exact (hm z).2 u hu y⟩
theorem MapW.drop {w : World} {B n : Nat} {m : ByteArray → Option Value} (h : MapW w B n m) (s : ByteArray) (hs : s.size ≤ 1048576) (ty : TypeId) :
    ∃ w', (Builtin.delete_ #[156, 9] ty #[.map (some B), .string s]).run Tryz.prog w = .ok (.tuple #[]) w' ∧ MapW w' B n (fun z => if z = s then none else m z) ∧ w.mapTurned w' B := by
  obtain ⟨D, h, hm⟩ := h
  obtain ⟨w', hr, h', ht⟩ := h.drop keyedS Tryz.underlying156 (keyS s hs) ty
  refine ⟨w', hr, ⟨_, h', fun z => ?_⟩, ht⟩
  by_cases e : z = s
  · subst e
    refine ⟨fun _ y => Maps.atKey_del_same y, fun u hu => ?_⟩
    simp at hu
  · simp only [if_neg e]
    exact ⟨fun h0 y => by rw [Maps.atKey_del_other (fun k => e (kl_inj k))]; exact (hm z).1 h0 y, fun u hu y => by rw [Maps.atKey_del_other (fun k => e (kl_inj k))]; exact (hm z).2 u hu y⟩

end Go.Proofs.YthfnechcddmjkaaGreatDoor
