/- Contracts of the program's functions. -/
import Derived.Test.YtjpahjfjpkbcnaaGreatB01
import Derived.Laws.RangeString
import Derived.Laws.RangeAny
import Derived.Maps.OwnOps
import Derived.Maps.OwnSet
import Derived.Maps.Keyed
import Derived.Deep.RegionWith
import Derived.Recover
import Derived.Maps.AppendAt

namespace Go.Proofs.YtjpahjfjpkbcnaaGreat
open Go.Proofs Go.RowKit
def smallC (c : UInt8) : Bool := decide (97 ≤ (c.toNat : Int)) && decide ((c.toNat : Int) ≤ 122)
def smallL (l : List UInt8) : Bool := l.all smallC
def smallB (s : ByteArray) : Bool := smallL s.toList
def keyL : List (List UInt8) := [[98, 111, 111, 108], [99, 101, 108, 108], [99, 104, 97, 110], [101, 108, 115, 101], [102, 97, 108, 115, 101], [102, 117, 110], [103, 101, 116], [105, 102], [105, 110], [105, 110, 112, 117, 116], [105, 110, 116], [106, 111, 105, 110], [108, 101, 116], [109, 97, 116, 99, 104], [109, 111, 100, 117, 108, 101], [111, 117, 116], [112, 97, 117, 115, 101], [112, 117, 116], [114, 101, 115, 101, 116], [115, 101, 110, 100], [115, 104, 105, 102, 116], [115, 112, 97, 119, 110], [116, 97, 107, 101], [116, 97, 115, 107], [116, 104, 101, 110], [116, 114, 117, 101], [116, 121, 112, 101], [117, 110, 105, 116]]
def keyB (s : ByteArray) : Bool := keyL.any fun k => s.toList == k
def nameB (s : ByteArray) : Bool := decide (1 ≤ s.size) && decide (s.size ≤ 8) && smallB s && !keyB s
def firstB (s : ByteArray) : Bool := match s.toList with | c :: _ => decide (65 ≤ (c.toNat : Int)) && decide ((c.toNat : Int) ≤ 90) | [] => false
def greatB (s : ByteArray) : Bool := decide (1 ≤ s.size) && decide (s.size ≤ 8) && firstB s && smallL (s.toList.drop 1)
set_option maxHeartbeats 4000000 in
set_option maxRecDepth 100000 in
theorem keyword_any (s : ByteArray) (w : World) :
  Calls Tryz.prog 60 #[.string s] w fun e w' => e = .returned (.bool (keyB s)) ∧ Below w.heap.size w w' := by
 go_enter Tryz.func60, Tryz.ntmps60
 go_wp2
 all_goals (go_ret; exact ⟨ret_bool (by simp_all [keyB, keyL]), Below.refl _ _⟩)
theorem smallL_drop (l : List UInt8) (k : Nat) (h : k < l.length) : smallL (l.drop k) = (smallC l[k] && smallL (l.drop (k + 1))) := by
 unfold smallL; rw [drop_cons l k h, List.all_cons]
theorem toList_get (s : ByteArray) (k : Nat) (h : k < s.size) : s.toList[k]'(by rw [ByteArray.toList_eq]; simpa using h) = s[k] := by
 simp [ByteArray.toList_eq]; rfl
theorem toList_len (s : ByteArray) : s.toList.length = s.size := by rw [ByteArray.toList_eq]; simp
set_option maxHeartbeats 1000000 in
theorem refsmall_any (s : ByteArray) (w : World) (hs : s.size ≤ maxLen) :
  Calls Tryz.prog 61 #[.string s] w fun e w' => e = .returned (.bool (smallB s)) ∧ Below w.heap.size w w' := by
 unfold maxLen at hs
 go_enter Tryz.func61, Tryz.ntmps61
 go_wp2
 go_loop [3] (fun i => ∃ k : Nat, k ≤ s.size ∧ i = .int .i64 k ∧ Hid (smallB s = smallL (s.toList.drop k))) (fun i => s.size - (intOf i).toNat)
 case atStart => exact ⟨0, Nat.zero_le _, rfl, rfl⟩
 case round =>
  obtain ⟨k, hk, rfl, HP⟩ := hrel
  by_cases hlt : k < s.size
  ·have hd := smallL_drop s.toList k (by rw [toList_len]; exact hlt)
   rw [toList_get s k hlt] at hd
   have HD := lh hd; clear hd
   by_cases h1 : 97 ≤ (s[k].toNat : Int)
   ·by_cases h2 : (s[k].toNat : Int) ≤ 122
    ·have hc : smallC s[k] = true := by simp [smallC, h1, h2]
     have HC := lh hc; clear hc
     go_wp2
     go_round
     case rel => exact ⟨k + 1, by omega, by go_num, by unfold Hid; rw [HP.o, HD.o, HC.o]; rfl⟩
     case measure => simp [intOf]; omega
    ·have hc : smallC s[k] = false := by simp [smallC, h1, h2]
     have HC := lh hc; clear hc
     go_wp2
     go_ret
     exact ⟨ret_bool (by rw [HP.o, HD.o, HC.o]; rfl), Below.refl _ _⟩
   ·have hc : smallC s[k] = false := by simp [smallC, h1]
    have HC := lh hc; clear hc
    go_wp2
    go_ret
    exact ⟨ret_bool (by rw [HP.o, HD.o, HC.o]; rfl), Below.refl _ _⟩
  ·go_wp2
   go_ret
   exact ⟨ret_bool (by rw [HP.o, List.drop_eq_nil_of_le (by rw [toList_len]; omega)]; rfl), Below.refl _ _⟩
set_option maxHeartbeats 1000000 in
theorem small_any (s : ByteArray) (w : World) :
  Calls Tryz.prog 59 #[.string s] w fun e w' => e = .returned (.bool (smallB s)) ∧ Below w.heap.size w w' := by
 go_enter Tryz.func59, Tryz.ntmps59
 go_wp2
 go_loopw [] (fun w' => ∃ pos, w' = w.iter s pos ∧ Hid (smallB s = smallL (s.toList.drop pos))) (fun w' => s.size - w'.iterPos w.heap.size)
 case atStart => exact ⟨0, rfl, rfl⟩
 case round =>
  obtain ⟨pos, rfl, HP⟩ := hrel
  by_cases hp : pos < s.size
  ·have hnx : ∀ ty, (Instr.next (.pointer (some ⟨w.heap.size, 0, none⟩)) true ty).run Tryz.prog (w.iter s pos) = _ := fun ty => run_next_any w s pos ty hp
   have hd := smallL_drop s.toList pos (by rw [toList_len]; exact hp)
   rw [toList_get s pos hp] at hd
   have HD := lh hd; clear hd
   by_cases ha : s[pos].toNat < 128
   ·have hdec := decode_ascii s pos hp ha
    rw [hdec] at hnx
    clear hdec
    by_cases h1 : 97 ≤ (s[pos].toNat : Int)
    ·by_cases h2 : (s[pos].toNat : Int) ≤ 122
     ·have hc : smallC s[pos] = true := by simp [smallC, h1, h2]
      have HC := lh hc; clear hc
      go_wp2
      go_roundw
      case rel => exact ⟨pos + 1, rfl, by unfold Hid; rw [HP.o, HD.o, HC.o]; rfl⟩
      case measure => simp; omega
     ·have hc : smallC s[pos] = false := by simp [smallC, h1, h2]
      have HC := lh hc; clear hc
      go_wp2
      go_ret
      exact ⟨ret_bool (by rw [HP.o, HD.o, HC.o]; rfl), (Below.refl _ _).alloc (Nat.le_refl _) _⟩
    ·have hc : smallC s[pos] = false := by simp [smallC, h1]
     have HC := lh hc; clear hc
     go_wp2
     go_ret
     exact ⟨ret_bool (by rw [HP.o, HD.o, HC.o]; rfl), (Below.refl _ _).alloc (Nat.le_refl _) _⟩
   ·have hdec := decode_high s pos hp (by omega)
    have hc : smallC s[pos] = false := by simp [smallC]; omega
    have HC := lh hc; clear hc
    have h122 : 122 < ((Utf8.decode s pos).1 : Int) := by omega
    generalize Utf8.decode s pos = q at hnx h122 hdec
    go_wp2
    go_ret
    exact ⟨ret_bool (by rw [HP.o, HD.o, HC.o]; rfl), (Below.refl _ _).alloc (Nat.le_refl _) _⟩
  ·have hnx : ∀ ty, (Instr.next (.pointer (some ⟨w.heap.size, 0, none⟩)) true ty).run Tryz.prog (w.iter s pos) = _ := fun ty => run_next_end w s pos ty hp
   go_wp2
   go_ret
   exact ⟨ret_bool (by rw [HP.o, List.drop_eq_nil_of_le (by rw [toList_len]; omega)]; rfl), (Below.refl _ _).alloc (Nat.le_refl _) _⟩
set_option maxHeartbeats 1000000 in
theorem Name_any (s : ByteArray) (w : World) :
  Calls Tryz.prog 15 #[.string s] w fun e w' => e = .returned (.bool (nameB s)) ∧ Below w.heap.size w w' := by
 by_cases h1 : 1 ≤ s.size
 ·by_cases h2 : s.size ≤ 8
  ·cases h3 : smallB s
   ·have hn : nameB s = false := by simp [nameB, h3]
    have HN := lh hn; clear hn
    go_enter Tryz.func15, Tryz.ntmps15
    go_wp2_with fail
    refine (small_any _ _).mono ?_
    rintro e w1 ⟨rfl, hb1⟩
    go_wp2
    go_ret
    exact ⟨ret_bool HN.o.symm, hb1⟩
   ·have hn : nameB s = !keyB s := by simp [nameB, h3, h1, h2]
    have HN := lh hn; clear hn
    go_enter Tryz.func15, Tryz.ntmps15
    go_wp2_with fail
    refine (small_any _ _).mono ?_
    rintro e w1 ⟨rfl, hb1⟩
    go_wp2_with fail
    refine (keyword_any _ _).mono ?_
    rintro e w2 ⟨rfl, hb2⟩
    go_wp2
    go_ret
    exact ⟨ret_bool HN.o.symm, hb1.trans (hb2.mono hb1.size)⟩
  ·have hn : nameB s = false := by simp [nameB, h2]
   have HN := lh hn; clear hn
   go_enter Tryz.func15, Tryz.ntmps15
   go_wp2
   go_ret
   exact ⟨ret_bool HN.o.symm, Below.refl _ _⟩
 ·have hn : nameB s = false := by simp [nameB, h1]
  have HN := lh hn; clear hn
  go_enter Tryz.func15, Tryz.ntmps15
  go_wp2
  go_ret
  exact ⟨ret_bool HN.o.symm, Below.refl _ _⟩
theorem extract_toList (s : ByteArray) : (s.extract 1 s.size).toList = s.toList.drop 1 := by
 rw [ByteArray.toList_eq, ByteArray.toList_eq]; simp
 rw [List.take_of_length_le]; simp
theorem firstB_get (s : ByteArray) (h : 0 < s.size) : firstB s = (decide ((65 : Int) ≤ (s[0].toNat : Int)) && decide ((s[0].toNat : Int) ≤ 90)) := by
 have h1 := toList_get s 0 h
 have h2 := toList_len s
 unfold firstB
 split
 ·rename_i c r hc
  simp only [hc, List.getElem_cons_zero] at h1
  rw [h1]
 ·rename_i hc; rw [hc] at h2; simp at h2; omega
set_option maxHeartbeats 1000000 in
theorem Great_any (s : ByteArray) (w : World) :
  Calls Tryz.prog 17 #[.string s] w fun e w' => e = .returned (.bool (greatB s)) ∧ Below w.heap.size w w' := by
 by_cases h1 : 1 ≤ s.size
 ·by_cases h2 : s.size ≤ 8
  ·have h0 : 0 < s.size := h1
   have hf := firstB_get s h0
   by_cases h3 : (65 : Int) ≤ (s[0].toNat : Int)
   ·by_cases h4 : (s[0].toNat : Int) ≤ 90
    ·have hn : greatB s = smallL (s.toList.drop 1) := by simp [greatB, hf, h3, h4, h1, h2]
     have HN := lh hn; clear hn hf
     go_enter Tryz.func17, Tryz.ntmps17
     go_wp2_with fail
     refine (small_any _ _).mono ?_
     rintro e w1 ⟨rfl, hb1⟩
     go_wp2
     go_ret
     exact ⟨ret_bool (by rw [HN.o, smallB, extract_toList]), hb1⟩
    ·have hn : greatB s = false := by simp [greatB, hf, h3, h4, h1, h2]
     have HN := lh hn; clear hn hf
     go_enter Tryz.func17, Tryz.ntmps17
     go_wp2
     go_ret
     exact ⟨ret_bool HN.o.symm, Below.refl _ _⟩
   ·have hn : greatB s = false := by simp [greatB, hf, h3]
    have HN := lh hn; clear hn hf
    go_enter Tryz.func17, Tryz.ntmps17
    go_wp2
    go_ret
    exact ⟨ret_bool HN.o.symm, Below.refl _ _⟩
  ·have hn : greatB s = false := by simp [greatB, h2]
   have HN := lh hn; clear hn
   go_enter Tryz.func17, Tryz.ntmps17
   go_wp2
   go_ret
   exact ⟨ret_bool HN.o.symm, Below.refl _ _⟩
 ·have hn : greatB s = false := by simp [greatB, h1]
  have HN := lh hn; clear hn
  go_enter Tryz.func17, Tryz.ntmps17
  go_wp2
  go_ret
  exact ⟨ret_bool HN.o.symm, Below.refl _ _⟩
def hasB (l : List ByteArray) (s : ByteArray) : Bool := l.any fun x => x.toList == s.toList
theorem hasB_drop (l : List ByteArray) (s : ByteArray) (k : Nat) (h : k < l.length) : hasB (l.drop k) s = ((l[k].toList == s.toList) || hasB (l.drop (k + 1)) s) := by
 unfold hasB; rw [drop_cons l k h, List.any_cons]
set_option maxHeartbeats 1000000 in
theorem Has_any (l : List ByteArray) (v : Value) (s : ByteArray) (w : World) (hv : SsAt w.heap.size w l v) :
  Calls Tryz.prog 51 #[v, .string s] w fun e w' => e = .returned (.bool (hasB l s)) ∧ Below w.heap.size w w' := by
 obtain ⟨a, cap, rfl, hcap, hlc, hka⟩ := SlV.split hv
 clear hv
 unfold maxLen at hcap
 have HKA := lh hka; clear hka
 go_enter Tryz.func51, Tryz.ntmps51
 go_wp2
 go_loop [5] (fun i => ∃ k : Nat, k ≤ l.length ∧ i = .int .i64 k ∧ Hid (hasB l s = hasB (l.drop k) s)) (fun i => l.length - (intOf i).toNat)
 case atStart => exact ⟨0, Nat.zero_le _, rfl, rfl⟩
 case round =>
  obtain ⟨k, hk, rfl, HP⟩ := hrel
  by_cases hlt : k < l.length
  ·obtain ⟨b, o, rfl, hbn, hss⟩ := HKA.o (by omega)
   obtain ⟨hg, -⟩ := StrsAt.get l b o hss k hlt
   have HD := lh (hasB_drop l s k hlt)
   cases hc : l[k].toList == s.toList
   ·have HC := lh hc
    go_wp2
    go_round
    case rel => exact ⟨k + 1, by omega, by go_num, by unfold Hid; rw [HP.o, HD.o, HC.o]; rfl⟩
    case measure => simp [intOf]; omega
   ·have HC := lh hc
    go_wp2
    go_ret
    exact ⟨ret_bool (by rw [HP.o, HD.o, HC.o]; rfl), Below.refl _ _⟩
  ·go_wp2
   go_ret
   exact ⟨ret_bool (by rw [HP.o, List.drop_eq_nil_of_le (by omega)]; rfl), Below.refl _ _⟩
def bytesOf (l : List UInt8) : ByteArray := ⟨l.toArray⟩
theorem bytesOf_toList (l : List UInt8) : (bytesOf l).toList = l := by rw [ByteArray.toList_eq]; rfl
set_option maxHeartbeats 1000000 in
set_option maxRecDepth 100000 in
theorem keywords_any (w : World) :
  Calls Tryz.prog 115 #[] w fun e w' => (∃ v, e = .returned v ∧ SsAt w'.heap.size w' (keyL.map bytesOf) v) ∧ Below w.heap.size w w' := by
 go_enter Tryz.func115, Tryz.ntmps115
 go_wp2
 go_ret
 refine ⟨⟨_, rfl, .inr ⟨w.heap.size, 0, 28, rfl, by decide, by decide, by simp, ?_⟩⟩, (Below.refl _ _).alloc (Nat.le_refl _) _⟩
 have hb := heap_alloc_new w
 simp only [keyL, List.map_cons, List.map_nil, StrsAt, bytesOf]
 repeat (refine ⟨⟨(cell_box (hb _)).trans rfl, by decide⟩, ?_⟩)
 trivial
def SetAt (w : World) (b n : Nat) (mem : List UInt8 → Bool) : Prop :=
 ∃ D : DataW Unit, w.ownsMap Tryz.prog 9 (plainElem Tryz.prog 4) b n D ∧ ∀ k, Maps.has D (.string k) = mem k ∧ (mem k = true → ∀ z, D.atKey (.string k) z = .lit (.bool true))
theorem SetAt.lt {w : World} {b n : Nat} {mem : List UInt8 → Bool} (h : SetAt w b n mem) : b < w.heap.size := by obtain ⟨D, h, _⟩ := h; exact h.lt
theorem SetAt.mono {w : World} {b n n' : Nat} {mem : List UInt8 → Bool} (h : SetAt w b n mem) (hn : n ≤ n') : SetAt w b n' mem := by
 obtain ⟨D, h1, h2⟩ := h; exact ⟨D, h1.mono hn, h2⟩
theorem SetAt.block {w w' : World} {b n : Nat} {mem : List UInt8 → Bool} (h : SetAt w b n mem) (hb : w'.heap[b]? = w.heap[b]?) : SetAt w' b n mem := by
 obtain ⟨D, ⟨es, clock, h1, h2⟩, h3⟩ := h
 exact ⟨D, ⟨es, clock, hb.trans h1, h2⟩, h3⟩
theorem SetAt.below {w w' : World} {b n n₀ : Nat} {mem : List UInt8 → Bool} (h : SetAt w b n mem) (hb : Below n₀ w w') (hlt : b < n₀) : SetAt w' b n mem := h.block (hb.block b hlt)
theorem SetAt.here {w w' : World} {b n : Nat} {mem : List UInt8 → Bool} (h : SetAt w b n mem) (hb : Below w.heap.size w w') : SetAt w' b n mem := h.block (hb.block b h.lt)
theorem SetAt.kept {S : Nat → Prop} {w w' : World} {b n : Nat} {mem : List UInt8 → Bool} (h : SetAt w b n mem) (hb : Kept S w w') (hs : ¬ S b) : SetAt w' b n mem := h.block (hb.block b h.lt hs)
theorem SetAt.congr {w : World} {b n : Nat} {mem mem' : List UInt8 → Bool} (h : SetAt w b n mem) (hm : ∀ k, mem k = mem' k) : SetAt w b n mem' := by
 have : mem = mem' := funext hm
 exact this ▸ h
theorem SetAt.new (w : World) : SetAt (w.alloc (.map #[] 0)) w.heap.size 0 fun _ => false :=
 ⟨.map [], World.ownsMap_made w _ _ _, fun k => ⟨rfl, by simp⟩⟩
theorem Tz.underlying85 : Tryz.prog.underlying 85 = some (.map 9 4) := by kernel_rfl
theorem Tz.zero4 (w : World) : (zeroValue 4).run Tryz.prog w = .ok (.bool false) w := by kernel_rfl
theorem keyStr (s : ByteArray) (hs : s.size ≤ maxLen) : keyOf Tryz.prog 9 (.string s) = some (.string s.toList) := by
 rw [ByteArray.toList_eq, keyOf_string Tryz.underlying9]; simp [mapKey, Tryz.underlying9, hs]
theorem plainElem_bool_inv {H : Type} {P : Program} {e : TypeId} (he : P.underlying e = some .bool) {v : Value} {z : DataW H × List MemPlace} (h : plainElem P e v = some z) : ∃ a, v = .bool a ∧ z = (.lit (.bool a), []) := by
 unfold plainElem at h
 rw [he] at h
 cases v <;> simp at h
 exact ⟨_, rfl, h.symm⟩
theorem SetAt.look {w : World} {b n : Nat} {mem : List UInt8 → Bool} (h : SetAt w b n mem) (s : ByteArray) (hs : s.size ≤ maxLen) :
  (Instr.lookup 85 (.map (some b)) (.string s) false).run Tryz.prog w = .ok (.bool (mem s.toList)) w := by
 obtain ⟨D, h1, h2⟩ := h
 obtain ⟨v, ps, hrun, hv⟩ := h1.lookup (Maps.string_keyed Tryz.underlying9) Tz.underlying85 (Tz.zero4 w) (plainElem_bool Tryz.underlying4 false) (keyStr s hs)
 obtain ⟨ha, hb⟩ := h2 s.toList
 have hat : D.atKey (.string s.toList) (.lit (.bool false)) = .lit (.bool (mem s.toList)) := by
  cases hm : mem s.toList
  ·rw [hm] at ha; exact Maps.atKey_of_not_has ha _
  ·exact hb hm _
 rw [hat] at hv
 obtain ⟨a, rfl, hz⟩ := plainElem_bool_inv Tryz.underlying4 hv
 simp only [Prod.mk.injEq, DataW.lit.injEq, Lit.bool.injEq] at hz
 rw [hz.1]
 exact hrun
theorem SetAt.put {w : World} {b n : Nat} {mem : List UInt8 → Bool} (h : SetAt w b n mem) (s : ByteArray) (hs : s.size ≤ maxLen) (hn : n < maxLen) :
  ∃ w', (Instr.mapUpdate 85 (.map (some b)) (.string s) (.bool true)).run Tryz.prog w = .ok () w' ∧ SetAt w' b (n + 1) (fun k => mem k || k == s.toList) ∧ w.grownBy w' (some b) := by
 obtain ⟨D, h1, h2⟩ := h
 obtain ⟨w', hrun, r1, r2⟩ := h1.update (Maps.string_keyed Tryz.underlying9) Tz.underlying85 hn (keyStr s hs) (plainElem_bool Tryz.underlying4 true)
 refine ⟨w', hrun, ⟨_, r1, fun k => ?_⟩, r2⟩
 have hD : Maps.IsMap D := by obtain ⟨es, clock, _, _, _, hD⟩ := h1; exact ⟨_, hD⟩
 by_cases hk : k = s.toList
 ·subst hk
  have hkl : WideAt.IsKeyLit (Lit.string s.toList) := by simp [WideAt.IsKeyLit]
  exact ⟨by rw [Maps.has_put_same hD hkl]; simp, fun _ z => Maps.atKey_put_same hD hkl _ _⟩
 ·have hne : (Lit.string k) ≠ .string s.toList := by simpa using hk
  exact ⟨by rw [Maps.has_put_other hne, (h2 k).1]; simp [hk], fun hm z => by rw [Maps.atKey_put_other hne]; exact (h2 k).2 (by simpa [hk] using hm) z⟩
theorem grown_kept {w w' : World} {b : Nat} {S : Nat → Prop} (h : w.grownBy w' (some b)) (hs : S b) : Kept S w w' :=
 ⟨h.os, h.tape, h.output, h.size, fun k hk hn => h.block k hk (fun e => by cases e; exact hn hs)⟩
theorem below_drewN {B : Nat} {a w : World} (h : Below B a w) (n : Nat) : Below B a (w.drewN n) := ⟨h.os, h.tape, h.output, h.size, h.block⟩
def integerB (n : Int) : Bool := decide (-1000000000 ≤ n) && decide (n ≤ 1000000000)
theorem integer_any (n : Int) (w : World) :
  Calls Tryz.prog 120 #[.int .i64 n] w fun e w' => e = .returned (.bool (integerB n)) ∧ Below w.heap.size w w' := by
 by_cases h1 : -1000000000 ≤ n
 ·go_enter Tryz.func120, Tryz.ntmps120
  go_wp2
  go_ret
  exact ⟨ret_bool (by simp [integerB, h1]), Below.refl _ _⟩
 ·have h2 : integerB n = false := by simp [integerB]; omega
  have H2 := lh h2; clear h2
  go_enter Tryz.func120, Tryz.ntmps120
  go_wp2
  go_ret
  exact ⟨ret_bool H2.o.symm, Below.refl _ _⟩
def kidsFitB (op : Int) (n p : Nat) : Bool :=
 if op = 1 ∨ op = 2 ∨ op = 3 ∨ op = 4 ∨ op = 21 ∨ op = 25 ∨ op = 28 then decide (n = 0)
 else if op = 5 ∨ op = 27 ∨ op = 16 ∨ op = 17 ∨ op = 19 ∨ op = 20 ∨ op = 23 ∨ op = 26 ∨ op = 24 then decide (n = 1)
 else if op = 6 ∨ op = 9 ∨ op = 10 ∨ op = 11 ∨ op = 12 ∨ op = 13 ∨ op = 18 ∨ op = 22 ∨ op = 7 then decide (n = 2)
 else if op = 8 then decide (n = 3)
 else if op = 14 then decide (n ≤ 3)
 else if op = 15 then decide (n = p + 1) else false
set_option maxHeartbeats 4000000 in
set_option maxRecDepth 100000 in
theorem kidsFit_any (op n : Int) (text : ByteArray) (ka : Option Addr) (kn kc : Nat) (pa : Option Addr) (pn pc : Nat) (w : World) (hp : pn ≤ 1000000) :
  Calls Tryz.prog 80 #[.agg #[.int .i64 op, .int .i64 n, .string text, .slice ka kn kc, .slice pa pn pc]] w fun e w' => e = .returned (.bool (kidsFitB op kn pn)) ∧ Below w.heap.size w w' := by
 go_enter Tryz.func80, Tryz.ntmps80
 go_wp2
 all_goals (go_ret; refine ⟨ret_bool ?_, (Below.refl _ _).alloc (Nat.le_refl _) _⟩; rw [Bool.eq_iff_iff]; simp_all [kidsFitB]; try omega)
def numberFitsB (op n : Int) : Bool :=
 if op = 1 then integerB n else if op = 2 then n == 0 || n == 1 else if op = 24 then decide (0 ≤ n) && decide (n < 4) else n == 0
set_option maxHeartbeats 4000000 in
theorem numberFits_any (op n : Int) (text : ByteArray) (ka : Option Addr) (kn kc : Nat) (pa : Option Addr) (pn pc : Nat) (w : World) :
  Calls Tryz.prog 81 #[.agg #[.int .i64 op, .int .i64 n, .string text, .slice ka kn kc, .slice pa pn pc]] w fun e w' => e = .returned (.bool (numberFitsB op n)) ∧ Below w.heap.size w w' := by
 go_enter Tryz.func81, Tryz.ntmps81
 go_wp2_with (refine (integer_any _ _).mono ?_; rintro e w1 ⟨rfl, hb1⟩)
 all_goals (go_ret; refine ⟨ret_bool ?_, ?_⟩; (first | (simp_all [numberFitsB]; done) | (rw [Bool.eq_iff_iff]; simp_all [numberFitsB]; try omega)); (first | exact (Below.refl _ _).alloc (Nat.le_refl _) _ | exact ((Below.refl _ _).alloc (Nat.le_refl _) _).trans (hb1.mono (by simp))))
def textFitsB (op : Int) (text : ByteArray) : Bool :=
 if op = 4 ∨ op = 5 ∨ op = 27 ∨ op = 7 then nameB text else if op = 14 then greatB text else text.toList.isEmpty
set_option maxHeartbeats 4000000 in
theorem textFits_any (op n : Int) (text : ByteArray) (ka : Option Addr) (kn kc : Nat) (pa : Option Addr) (pn pc : Nat) (w : World) :
  Calls Tryz.prog 82 #[.agg #[.int .i64 op, .int .i64 n, .string text, .slice ka kn kc, .slice pa pn pc]] w fun e w' => e = .returned (.bool (textFitsB op text)) ∧ Below w.heap.size w w' := by
 go_enter Tryz.func82, Tryz.ntmps82
 go_wp2_with (first | (go_at_call 15; refine (Name_any _ _).mono ?_; rintro e w1 ⟨rfl, hb1⟩) | (go_at_call 17; refine (Great_any _ _).mono ?_; rintro e w1 ⟨rfl, hb1⟩))
 all_goals (go_ret; refine ⟨ret_bool ?_, ?_⟩; (first | (simp_all [textFitsB]; done) | (rw [Bool.eq_iff_iff]; simp_all [textFitsB]; try omega)); (first | exact (Below.refl _ _).alloc (Nat.le_refl _) _ | exact ((Below.refl _ _).alloc (Nat.le_refl _) _).trans (hb1.mono (by simp))))
def patFitB (form n : Int) (text : ByteArray) (k : Nat) : Bool :=
 if form = 1 ∨ form = 5 then n == 0 && text.toList.isEmpty && decide (k = 0)
 else if form = 2 then n == 0 && nameB text && decide (k = 0)
 else if form = 3 then integerB n && text.toList.isEmpty && decide (k = 0)
 else if form = 4 then (n == 0 || n == 1) && text.toList.isEmpty && decide (k = 0)
 else if form = 6 then n == 0 && greatB text && decide (k ≤ 3) else false
set_option maxHeartbeats 4000000 in
set_option maxRecDepth 100000 in
theorem patFits6_any (n : Int) (text : ByteArray) (ka : Option Addr) (kn kc : Nat) (w : World) :
  Calls Tryz.prog 88 #[.agg #[.int .i64 6, .int .i64 n, .string text, .slice ka kn kc]] w fun e w' => e = .returned (.bool (patFitB 6 n text kn)) ∧ Below w.heap.size w w' := by
 go_enter Tryz.func88, Tryz.ntmps88
 go_wp2
 go_quiet (fail)
 go_wp2_with fail
 go_region_with (go_at_call 17; refine (Great_any _ _).mono ?_; rintro e w1 ⟨rfl, hb1⟩; have hc1 := (bcell hb1).1)
 all_goals go_wp2
 all_goals (go_ret; refine ⟨ret_bool ?_, ?_⟩; (first | (simp_all [patFitB]; done) | (rw [Bool.eq_iff_iff]; simp_all [patFitB]; try omega)); (first | exact below_drewN ((Below.refl _ _).alloc (Nat.le_refl _) _) _ | exact Below.trans (below_drewN ((Below.refl _ _).alloc (Nat.le_refl _) _) _) (hb1.mono (B' := w.heap.size) (by simp)) | exact below_drewN (Below.trans (below_drewN ((Below.refl _ _).alloc (Nat.le_refl _) _) _) (hb1.mono (B' := w.heap.size) (by simp))) _))
set_option maxHeartbeats 4000000 in
set_option maxRecDepth 100000 in
theorem patFits_any (form n : Int) (text : ByteArray) (ka : Option Addr) (kn kc : Nat) (w : World) :
  Calls Tryz.prog 88 #[.agg #[.int .i64 form, .int .i64 n, .string text, .slice ka kn kc]] w fun e w' => e = .returned (.bool (patFitB form n text kn)) ∧ Below w.heap.size w w' := by
 by_cases h6 : form = 6
 ·subst h6; exact patFits6_any n text ka kn kc w
 have h6' : (form == 6) = false := by simpa using h6
 clear h6
 go_enter Tryz.func88, Tryz.ntmps88
 go_wp2
 go_quiet (fail)
 go_wp2_with (first | (go_at_call 15; refine (Name_any _ _).mono ?_; rintro e w1 ⟨rfl, hb1⟩) | (go_at_call 120; refine (integer_any _ _).mono ?_; rintro e w1 ⟨rfl, hb1⟩))
 all_goals (go_ret; refine ⟨ret_bool ?_, ?_⟩; (first | (simp_all [patFitB]; done) | (rw [Bool.eq_iff_iff]; simp_all [patFitB]; try omega)); (first | exact below_drewN ((Below.refl _ _).alloc (Nat.le_refl _) _) _ | exact Below.trans (below_drewN ((Below.refl _ _).alloc (Nat.le_refl _) _) _) (hb1.mono (B' := w.heap.size) (by simp))))
def gaveUp : List PanicEntry := [{ v := .iface 139 (.agg #[]), recovered := false }]
def AskEnd (b : Bool) (e : Ending) : Prop := (b = true ∧ ∃ v, e = .returned v) ∨ (b = false ∧ e = .panicked gaveUp)
set_option maxHeartbeats 1000000 in
theorem ask_yes (w : World) : Calls Tryz.prog 79 #[.bool true] w fun e w' => e = .returned (.tuple #[]) ∧ w = w' := by
 go_enter Tryz.func79, Tryz.ntmps79
 go_wp2
 go_end0
 exact ⟨rfl, rfl⟩
set_option maxHeartbeats 1000000 in
theorem ask_no (w : World) : Calls Tryz.prog 79 #[.bool false] w fun e w' => e = .panicked gaveUp ∧ w = w' := by
 go_enter Tryz.func79, Tryz.ntmps79
 go_wp2
 exact ⟨rfl, rfl, rfl⟩
theorem catch_panicking (p : Addr) (x : Int) (u : TypeId) (pv : Value) (older : List PanicEntry) (w : World) (hc : w.cell? p = some (.int .i64 x)) (hz : w.frozen? p = false) :
  CallsD Tryz.prog 117 #[.pointer (some p)] (.panicking ({ v := .iface u pv, recovered := false } :: older)) w fun e u' w' =>
   e = .returned (.tuple #[]) ∧ u' = .panicking ({ v := .iface u pv, recovered := true } :: older) ∧ w' = w.setCell p (.int .i64 2) := by
 refine callsD_of_wpS Tryz.func117 rfl fun c₀ cs hu => ?_
 apply wpS_seq
 apply wpS_region
 simp [wpOpsS, go_sem, recoverD, hu, Tryz.ntmps117, Exit.thenS]
 refine wpS_cond (t := true) (by simp [Act.eval, Array.replicate]) ?_
 simp only [if_true]
 apply wpS_region
 simp [wpOpsS, go_sem, hc, hz, bodyPostS, results, Tryz.results117]
theorem catch_idle (p : Addr) (w : World) :
  CallsD Tryz.prog 117 #[.pointer (some p)] .returning w fun e u' w' => e = .returned (.tuple #[]) ∧ u' = .returning ∧ w' = w := by
 refine callsD_of_wpS Tryz.func117 rfl fun c₀ cs hu => ?_
 apply wpS_seq
 apply wpS_region
 simp [wpOpsS, go_sem, recoverD, hu, Tryz.ntmps117, Exit.thenS]
 refine wpS_cond (t := false) (by simp [Act.eval, Array.replicate]) ?_
 simp only [Bool.false_eq_true, if_false]
 refine wpS_of_wp (wp_skip ?_)
 cases c₀
 simp_all [bodyPostS, results, Tryz.results117]
def errOf (b : Bool) : Int := if b then 0 else 2
set_option maxHeartbeats 1000000 in
theorem formed_yes (g : FuncId) (caps : Array Value) (w : World) (eg : ∀ args w, (callFunc g args).run Tryz.prog w = .ok (.enter g args) w)
  (h : ∀ w1, Below w.heap.size w w1 → w.heap.size < w1.heap.size → Calls Tryz.prog g caps w1 fun e w' => (∃ v, e = .returned v) ∧ Below w1.heap.size w1 w') :
  Calls Tryz.prog 75 #[.func (.func g) #[] caps] w fun e w' => e = .returned (.int .i64 0) ∧ Below w.heap.size w w' := by
 have hmf : ∀ (fn : Fn) (first cap : Array Value) (w : World), (Instr.makeFunc fn first cap).run Tryz.prog w = .ok (.func fn first cap) w := fun _ _ _ _ => rfl
 have h1 := h (w.alloc (.cells #[.int .i64 0] 43)) ((Below.refl _ _).alloc (Nat.le_refl _) _) (by simp)
 have H1 := lh h1; clear h1 h
 go_enter_defers Tryz.func75, Tryz.ntmps75
 go_wp2_with fail
 refine H1.o.mono ?_
 rintro e w1 ⟨⟨v, rfl⟩, hb⟩
 have hbx := bget' hb (heap_alloc_new w (.cells #[.int .i64 0] 43))
 have hc := cell_of_one hbx
 have hf := free_of_one hbx
 have hlt := lt_of_block hbx
 have HB := lh hb; clear hb H1
 have HBX := lh hbx; clear hbx
 go_wp2
 refine leaves_cons (f := 117) (args := #[.pointer (some ⟨w.heap.size, 0, none⟩)]) (by simp) (by simp [go_sem]) ?_
 refine (catch_idle ⟨w.heap.size, 0, none⟩ _).mono ?_
 rintro e u' w'' ⟨rfl, rfl, rfl⟩
 have h2 : (w1.setCell ⟨w.heap.size, 0, none⟩ (.int .i64 0)).cell? ⟨w.heap.size, 0, none⟩ = some (.int .i64 0) := cell_of_one (one_setCell HBX.o)
 simp [Leaves, settle, results, Tryz.results75, go_sem, h2]
 exact ((((Below.refl _ w).alloc (Nat.le_refl _) _).trans (HB.o.mono (by simp))).setCell (p := ⟨w.heap.size, 0, none⟩) (Nat.le_refl _) _)
set_option maxHeartbeats 1000000 in
theorem formed_no (g : FuncId) (caps : Array Value) (w : World) (eg : ∀ args w, (callFunc g args).run Tryz.prog w = .ok (.enter g args) w)
  (h : ∀ w1, Below w.heap.size w w1 → w.heap.size < w1.heap.size → Calls Tryz.prog g caps w1 fun e w' => e = .panicked gaveUp ∧ Below w1.heap.size w1 w') :
  Calls Tryz.prog 75 #[.func (.func g) #[] caps] w fun e w' => e = .returned (.int .i64 2) ∧ Below w.heap.size w w' := by
 have hmf : ∀ (fn : Fn) (first cap : Array Value) (w : World), (Instr.makeFunc fn first cap).run Tryz.prog w = .ok (.func fn first cap) w := fun _ _ _ _ => rfl
 have h1 := h (w.alloc (.cells #[.int .i64 0] 43)) ((Below.refl _ _).alloc (Nat.le_refl _) _) (by simp)
 have H1 := lh h1; clear h1 h
 go_enter_defers Tryz.func75, Tryz.ntmps75
 go_wp2_with fail
 refine H1.o.mono ?_
 rintro e w1 ⟨rfl, hb⟩
 have hbx := bget' hb (heap_alloc_new w (.cells #[.int .i64 0] 43))
 have hc := cell_of_one hbx
 have hf := free_of_one hbx
 have HB := lh hb; clear hb H1
 have HBX := lh hbx; clear hbx
 go_wp2
 refine leaves_cons (f := 117) (args := #[.pointer (some ⟨w.heap.size, 0, none⟩)]) (by simp) (by simp [go_sem]) ?_
 refine (catch_panicking ⟨w.heap.size, 0, none⟩ 0 139 _ [] _ hc hf).mono ?_
 rintro e u' w'' ⟨rfl, rfl, rfl⟩
 have h2 : (w1.setCell ⟨w.heap.size, 0, none⟩ (.int .i64 2)).cell? ⟨w.heap.size, 0, none⟩ = some (.int .i64 2) := cell_of_one (one_setCell HBX.o)
 simp [Leaves, settle, results, Tryz.results75, go_sem, h2]
 exact ((((Below.refl _ w).alloc (Nat.le_refl _) _).trans (HB.o.mono (by simp))).setCell (p := ⟨w.heap.size, 0, none⟩) (Nat.le_refl _) _)
attribute [local go_sem] Oper.semAt_some
def Pt.form : Pt → Int | .mk f _ _ _ => f
def Pt.n : Pt → Int | .mk _ n _ _ => n
def Pt.text : Pt → ByteArray | .mk _ _ t _ => t
def Pt.parts : Pt → List Pt | .mk _ _ _ l => l
def Pt.fits (p : Pt) : Bool := patFitB p.form p.n p.text p.parts.length
theorem PtAt.parts {n₀ : Nat} {w : World} {p : Pt} {v : Value} (h : PtAt n₀ w p v) : ∃ a cap, v = .agg #[.int .i64 p.form, .int .i64 p.n, .string p.text, .slice a p.parts.length cap] ∧ p.text.size ≤ maxLen := by
 cases p with
 | mk f n t l =>
  unfold PtAt at h
  obtain ⟨kv, h1, h2, h3⟩ := h
  obtain ⟨a, cap, rfl, -⟩ := h3.split
  exact ⟨a, cap, h1, h2⟩
def goP : List Pt → Nat → (List UInt8 → Bool) → Bool
 | [], _, _ => true
 | p :: ps, n, met => decide (n + 1 ≤ 12) && p.fits && (if p.form = 2 then !met p.text.toList && goP ps (n + 1) (fun k => met k || k == p.text.toList) else goP ps (n + 1) met)
def metOf (ps : List Pt) : List UInt8 → Bool := fun k => ps.any fun p => decide (p.form = 2) && k == p.text.toList
def patB (p : Pt) : Bool := goP ((partsP 1 p).map (·.2)) 0 fun _ => false
theorem metOf_snoc (ps : List Pt) (p : Pt) : metOf (ps ++ [p]) = fun k => metOf ps k || (decide (p.form = 2) && k == p.text.toList) := by
 funext k; simp [metOf]
theorem leavesM_mark {P : Program} {fn : Func} {tmps : Array Value} {R : Ending → World → Prop} {E : Nat} {ds : List Deferred} {u : FrameMode} {W : World} (hu : u ≠ .run) (hk : W.heap[E]? = some (.deferred (some [])))
  (h : LeavesInM Fence.wide 0 P fn tmps R ds u (W.putObj E (.deferred none))) : LeavesInM Fence.wide 0 P fn tmps R (markOf E :: ds) u W :=
 ⟨hu, .inl ⟨E, _, rfl, run_takeDeferred hk, h⟩⟩
set_option maxHeartbeats 2000000 in
set_option maxRecDepth 100000 in
theorem checkPat1_any (n₀ : Nat) (p : Pt) (cs : Array Value) (Bp : Nat) (w : World) (hp : PtAt n₀ w p (.agg cs)) (hn : n₀ ≤ w.heap.size) (hB : w.heap[Bp]? = some (.cells cs 35 (0, 0))) (hh : heightP p ≤ 1000) :
  CallsIn Fence.wide 0 Tryz.prog 85 #[.pointer (some ⟨Bp, 0, none⟩)] w fun e w' => AskEnd (patB p) e ∧ Below w.heap.size w w' := by
 obtain ⟨a, cap, hcs, htx⟩ := hp.parts
 cases hcs
 have hlt : Bp < w.heap.size := (Array.getElem?_eq_some_iff.1 hB).1
 have hmm := @run_makeMap Tryz.prog
 refine calls_of_wpF Tryz.func85 rfl ?_
 simp only [Tryz.ntmps85, List.size_toArray, List.length_cons, List.length_nil, Nat.reduceAdd, Nat.reduceSub, Array.replicate_succ, Array.replicate_zero, List.push_toArray, List.append_toArray, List.nil_append, List.cons_append]
 refine wpF_seq ?_
 intro K hK
 refine wpF_of (n := 0) ?_
 gi_wp2
 refine wpF_seq ?_
 intro K hK
 refine wpF_of (n := 0) ?_
 gi_wp2
 clear hmm
 have hset : SetAt (((w.alloc (.cells #[.int .i64 0] 3)).alloc (.map #[] 0)).alloc (.cells #[.map (some (w.heap.size + 1))] 85)) (w.heap.size + 1) 0 fun _ => false := by
  have := SetAt.new (w.alloc (.cells #[.int .i64 0] 3))
  rw [World.size_alloc] at this
  exact this.here ((Below.refl _ _).alloc (Nat.le_refl _) _)
 have hbW : Below w.heap.size w (((w.alloc (.cells #[.int .i64 0] 3)).alloc (.map #[] 0)).alloc (.cells #[.map (some (w.heap.size + 1))] 85)) := (((Below.refl _ w).alloc (Nat.le_refl _) _).alloc (by simp) _).alloc (by simp; omega) _
 have hsW : (((w.alloc (.cells #[.int .i64 0] 3)).alloc (.map #[] 0)).alloc (.cells #[.map (some (w.heap.size + 1))] 85)).heap.size = w.heap.size + 3 := by simp
 have hnW : (((w.alloc (.cells #[.int .i64 0] 3)).alloc (.map #[] 0)).alloc (.cells #[.map (some (w.heap.size + 1))] 85)).heap[w.heap.size]? = some (.cells #[.int .i64 0] 3 (0, 0)) := by
  rw [Below.heap_alloc _ _ _ (by simp; omega), Below.heap_alloc _ _ _ (by simp)]; exact heap_alloc_new _ _
 have hmW : (((w.alloc (.cells #[.int .i64 0] 3)).alloc (.map #[] 0)).alloc (.cells #[.map (some (w.heap.size + 1))] 85)).heap[w.heap.size + 2]? = some (.cells #[.map (some (w.heap.size + 1))] 85 (0, 0)) := by
  have := heap_alloc_new ((w.alloc (.cells #[.int .i64 0] 3)).alloc (.map #[] 0)) (.cells #[.map (some (w.heap.size + 1))] 85); simpa using this
 generalize (((w.alloc (.cells #[.int .i64 0] 3)).alloc (.map #[] 0)).alloc (.cells #[.map (some (w.heap.size + 1))] 85)) = W at *
 have hBW := bget hbW hB hlt
 have c0 : W.cell? ⟨Bp, 0, none⟩ = some (.int .i64 p.form) := cell_box hBW
 have c1 : W.cell? ⟨Bp, 1, none⟩ = some (.int .i64 p.n) := cell_box hBW
 have c2 : W.cell? ⟨Bp, 2, none⟩ = some (.string p.text) := cell_box hBW
 have c3 : W.cell? ⟨Bp, 3, none⟩ = some (.slice a p.parts.length cap) := cell_box hBW
 have HSW := lh hsW; have HNW := lh hnW; have HMW := lh hmW; have HBW := lh hBW; have HB := lh hB
 clear hsW hnW hmW hBW hB
 refine wpF_seq ?_
 intro K hK
 refine wpF_of (n := 0) ?_
 gi_wp2_with fail
 refine ⟨trivial, rfl, (callsIn_wide.2 (partsP_any W p.form p.n p.text (.slice a p.parts.length cap))).mono ?_⟩
 rintro e W2 ⟨rfl, hW2⟩
 have hs2 : W2.heap.size = w.heap.size + 5 := by rw [hW2]; simp [HSW.o]
 have hbWW : Below W.heap.size W W2 := by rw [hW2]; exact ((Below.refl _ W).alloc (Nat.le_refl _) _).alloc (by simp) _
 have hb2 : Below w.heap.size w W2 := hbW.trans (hbWW.mono hbW.size)
 have hT2 : W2.heap[W.heap.size]? = some (.cells #[.int .i64 p.form, .int .i64 p.n, .string p.text, .slice a p.parts.length cap] 35 (0, 0)) := by
  rw [hW2, Below.heap_alloc _ _ _ (by simp)]; exact heap_alloc_new _ _
 have hK2 : W2.heap[W.heap.size + 1]? = some (.cells #[.func (.func 87) #[] #[]] 103 (0, 0)) := by
  rw [hW2]; have := heap_alloc_new (W.alloc (.cells #[.int .i64 p.form, .int .i64 p.n, .string p.text, .slice a p.parts.length cap] 35)) (.cells #[.func (.func 87) #[] #[]] 103); simpa using this
 have hp2 : PtAt n₀ W2 p (.agg #[.int .i64 p.form, .int .i64 p.n, .string p.text, .slice a p.parts.length cap]) := PtAt.keep (hb2.mono hn) (Nat.le_refl _) _ _ hp
 clear hW2
 gi_wp2
 refine wpF_block ?_
 refine wpF_range (fn := Tryz.f85) rfl (gf := 124) rfl (enters_of Tryz.func124 (by kernel_rfl) rfl) (w0 := W2) (iterP hp2 (by omega) hT2 hK2 hh) (Below.refl _ _) (fun _ => rfl)
  (fun k => k = w.heap.size ∨ k = w.heap.size + 1) ?hS ?hD
  (fun pre V => ∃ post, segP W2 1 p (.agg #[.int .i64 p.form, .int .i64 p.n, .string p.text, .slice a p.parts.length cap]) = pre ++ post ∧ Hid (patB p = goP (post.map (·.T)) pre.length (metOf (pre.map (·.T)))) ∧ pre.length ≤ 12 ∧
   V.heap[w.heap.size]? = some (.cells #[.int .i64 pre.length] 3 (0, 0)) ∧ V.heap[w.heap.size + 2]? = some (.cells #[.map (some (w.heap.size + 1))] 85 (0, 0)) ∧ SetAt V (w.heap.size + 1) pre.length (metOf (pre.map (·.T))) ∧ Below n₀ W2 V ∧ Below w.heap.size w V ∧ w.heap.size + 5 ≤ V.heap.size)
  (fun _ _ => False) (fun ch V => ch = gaveUp ∧ Hid (patB p = false) ∧ Below w.heap.size w V) ?hI ?hIx ?h0 ?hround ?hdone ?hstop ?hpanic
 case hS => have := HSW.out; rintro k (rfl | rfl) <;> omega
 case hD => have := HSW.out; rintro k (h | rfl | rfl) <;> omega
 case hI =>
  rintro pre V1 V2 ⟨post, h1, h2, h3, h4, h5, h6, h7, h8, h9⟩ hV
  exact ⟨post, h1, h2, h3, bget hV h4 (by omega), bget hV h5 (by omega), h6.below hV (by omega), h7.trans (hV.mono (by omega)), h8.trans (hV.mono (by omega)), Nat.le_trans h9 hV.size⟩
 case hIx => intro _ _ _ h; exact h.elim
 case h0 =>
  refine ⟨_, (List.nil_append _).symm, ?_, by simp, bget hbWW HNW.o (by have := HSW.out; omega), bget hbWW HMW.o (by have := HSW.out; omega), hset.here hbWW, Below.refl _ _, hb2, by omega⟩
  unfold Hid patB
  have := segP_map W2 p 1 (.agg #[.int .i64 p.form, .int .i64 p.n, .string p.text, .slice a p.parts.length cap])
  rw [← this]
  simp [Function.comp_def]
  rfl
 case hstop => intro _ _ _ _ h; exact h.elim
 case hdone =>
  rintro E V hE ⟨post, h1, h2, h3, h4, h5, h6, h7, h8, h9⟩ hV
  have hpn : post = [] := by have := congrArg List.length h1; simp at this; exact this
  subst hpn
  refine leavesM_mark (by simp) hV ?_
  exact ⟨_, results_none rfl _ _ _, .inl ⟨h2.o, _, rfl⟩, h8.trans (below_putObj _ (by omega) _)⟩
 case hpanic =>
  rintro E ch V hE ⟨rfl, h2, h3⟩ hV
  refine leavesM_mark (by simp) hV ?_
  exact ⟨.inr ⟨h2.o, rfl⟩, h3.trans (below_putObj _ (by omega) _)⟩
 case hround =>
  rintro l pre x post V hl hlV hx ⟨post', h1, h2, h3, h4, h5, h6, h7, h8, h9⟩
  obtain rfl : post' = x :: post := List.append_cancel_left (h1.symm.trans hx)
  have hxa := segP_at p _ 1 hp2 x (by rw [h1]; simp)
  obtain ⟨xd, xT, xv⟩ := x
  simp only at hxa
  obtain ⟨xa, xc, rfl, hxt⟩ := hxa.parts
  have hstep : patB p = (decide (pre.length + 1 ≤ 12) && xT.fits && (if xT.form = 2 then !metOf (pre.map (·.T)) xT.text.toList && goP (post.map (·.T)) (pre.length + 1) (fun k => metOf (pre.map (·.T)) k || k == xT.text.toList) else goP (post.map (·.T)) (pre.length + 1) (metOf (pre.map (·.T))))) := h2.o
  have HST := lh hstep; clear hstep h2
  have HH1 := lh h1; have HX := lh hx; have H4 := lh h4; have H5 := lh h5; have H6 := lh h6
  clear h1 hx h4 h5 h6
  dsimp only [encP]
  simp only [List.zip_toArray, List.zip_cons_cons, List.zip_nil_right, List.foldl_toArray', List.foldl_cons, List.foldl_nil, List.setIfInBounds_toArray, List.set_cons_succ, List.set_cons_zero]
  gi_wp2
  refine ⟨(Below.refl _ _).alloc (Nat.le_refl _) _, fun V2 hk2 => ?_⟩
  have hbox := hk2.get (heap_alloc_new V (.cells #[.int .i64 xT.form, .int .i64 xT.n, .string xT.text, .slice xa xT.parts.length xc] 35)) (by omega)
  have hN2 := hk2.get (bget' ((Below.refl V.heap.size V).alloc (Nat.le_refl _) (.cells #[.int .i64 xT.form, .int .i64 xT.n, .string xT.text, .slice xa xT.parts.length xc] 35)) H4.o) (by omega)
  have hM2 := hk2.get (bget' ((Below.refl V.heap.size V).alloc (Nat.le_refl _) (.cells #[.int .i64 xT.form, .int .i64 xT.n, .string xT.text, .slice xa xT.parts.length xc] 35)) H5.o) (by omega)
  have hS2 : SetAt V2 (w.heap.size + 1) pre.length (metOf (pre.map (·.T))) := (H6.o.here ((Below.refl V.heap.size V).alloc (Nat.le_refl _) _)).kept hk2 (by omega)
  have hB2 : Below w.heap.size V V2 := ((Below.refl w.heap.size V).alloc (by omega) _).trans (hk2.below (by simp; omega) (by rintro k rfl; omega))
  have e0 : (V2.setCell ⟨w.heap.size, 0, none⟩ (.int .i64 (pre.length + 1))).heap[V.heap.size]? = _ := (Below.heap_setCell _ _ _ _ (by simp; omega)).trans hbox
  have en : (V2.setCell ⟨w.heap.size, 0, none⟩ (.int .i64 (pre.length + 1))).heap[w.heap.size]? = _ := one_setCell hN2
  have em : (V2.setCell ⟨w.heap.size, 0, none⟩ (.int .i64 (pre.length + 1))).heap[w.heap.size + 2]? = _ := (Below.heap_setCell _ _ _ _ (by simp)).trans hM2
  have es : SetAt (V2.setCell ⟨w.heap.size, 0, none⟩ (.int .i64 (pre.length + 1))) (w.heap.size + 1) pre.length (metOf (pre.map (·.T))) := hS2.block (Below.heap_setCell _ _ _ _ (by simp))
  have ek : Kept (fun k => k = w.heap.size ∨ k = w.heap.size + 1) V2 (V2.setCell ⟨w.heap.size, 0, none⟩ (.int .i64 (pre.length + 1))) := .setCell _ (.inl rfl) _
  have n0 := cell_of_one hN2
  have n1 := free_of_one hN2
  have n2 := cell_of_one en
  have b0 : (V2.setCell ⟨w.heap.size, 0, none⟩ (.int .i64 (pre.length + 1))).cell? ⟨V.heap.size, 0, none⟩ = some (.int .i64 xT.form) := cell_box e0
  have b1 : (V2.setCell ⟨w.heap.size, 0, none⟩ (.int .i64 (pre.length + 1))).cell? ⟨V.heap.size, 1, none⟩ = some (.int .i64 xT.n) := cell_box e0
  have b2 : (V2.setCell ⟨w.heap.size, 0, none⟩ (.int .i64 (pre.length + 1))).cell? ⟨V.heap.size, 2, none⟩ = some (.string xT.text) := cell_box e0
  have b3 : (V2.setCell ⟨w.heap.size, 0, none⟩ (.int .i64 (pre.length + 1))).cell? ⟨V.heap.size, 3, none⟩ = some (.slice xa xT.parts.length xc) := cell_box e0
  have E0 := lh e0; have EN := lh en; have EM := lh em; have ES := lh es; have EK := lh ek
  clear e0 en em es ek hbox hN2 hM2 hS2
  have hVle := hB2.size
  by_cases h12 : pre.length + 1 ≤ 12
  ·cases hf : patFitB xT.form xT.n xT.text xT.parts.length
   ·have HF : Hid (patB p = false) := by unfold Hid; rw [HST.o]; simp [Pt.fits, hf]
    gi_wp2_with fail
    refine ⟨trivial, rfl, (CallsIn.inRound l (callsIn_wide.2 (patFits_any _ _ _ _ _ _ _))).mono ?_⟩
    rintro e w1 ⟨rfl, hb1⟩
    rw [hf]
    gi_wp2_with fail
    refine ⟨trivial, rfl, (CallsIn.inRound l (callsIn_wide.2 (ask_no _))).mono ?_⟩
    rintro e w2 ⟨rfl, rfl⟩
    gi_wp2
    exact ⟨rfl, EK.o.trans (.of_below hb1), rfl, HF, (h8.trans hB2).trans ((EK.o.below (by omega) (by rintro k (rfl | rfl) <;> omega)).trans (hb1.mono (by have := EK.o.size; omega)))⟩
   ·have hst2 : patB p = (if xT.form = 2 then !metOf (pre.map (·.T)) xT.text.toList && goP (post.map (·.T)) (pre.length + 1) (fun k => metOf (pre.map (·.T)) k || k == xT.text.toList) else goP (post.map (·.T)) (pre.length + 1) (metOf (pre.map (·.T)))) := by rw [HST.o]; simp [Pt.fits, hf, h12]
    have HS2 := lh hst2; clear hst2
    gi_wp2_with fail
    refine ⟨trivial, rfl, (CallsIn.inRound l (callsIn_wide.2 (patFits_any _ _ _ _ _ _ _))).mono ?_⟩
    rintro e w1 ⟨rfl, hb1⟩
    rw [hf]
    have q0 := bget' hb1 E0.o
    have qn := bget' hb1 EN.o
    have qm := bget' hb1 EM.o
    have qs := ES.o.here hb1
    have hk1 : Kept (fun k => k = w.heap.size ∨ k = w.heap.size + 1) V2 w1 := EK.o.trans (.of_below hb1)
    have hlo : Below w.heap.size w w1 := (h8.trans hB2).trans (hk1.below (by omega) (by rintro k (rfl | rfl) <;> omega))
    have hsz1 := hk1.size
    have d0 : w1.cell? ⟨V.heap.size, 0, none⟩ = some (.int .i64 xT.form) := cell_box q0
    have d2 : w1.cell? ⟨V.heap.size, 2, none⟩ = some (.string xT.text) := cell_box q0
    have dm : w1.cell? ⟨w.heap.size + 2, 0, none⟩ = some (.map (some (w.heap.size + 1))) := cell_box qm
    have dm' : w1.cell? ⟨w.heap.size + 1 + 1, 0, none⟩ = some (.map (some (w.heap.size + 1))) := dm
    have QN := lh qn; have QM := lh qm; have QS := lh qs; have HK1 := lh hk1; have HLO := lh hlo
    clear q0 qn qm qs hk1 hlo hb1 b0 b1 b2 b3 n0 n1 n2 E0 EN EM ES EK
    gi_wp2_with fail
    refine ⟨trivial, rfl, (CallsIn.inRound l (callsIn_wide.2 (ask_yes _))).mono ?_⟩
    rintro e w2 ⟨rfl, rfl⟩
    cases hfm : xT.form == 2
    ·have hne : ¬ xT.form = 2 := by simpa using hfm
     have hgo : patB p = goP (post.map (·.T)) (pre.length + 1) (metOf (pre.map (·.T))) := by rw [HS2.o, if_neg hne]
     have hmet : metOf ((pre ++ [(⟨xd, xT, .agg #[.int .i64 xT.form, .int .i64 xT.n, .string xT.text, .slice xa xT.parts.length xc]⟩ : PartP)]).map (·.T)) = metOf (pre.map (·.T)) := by rw [List.map_append, List.map_cons, List.map_nil, metOf_snoc]; funext k; simp [hne]
     have HGO := lh hgo; have HMET := lh hmet; clear hgo hmet hne
     gi_wp2
     refine ⟨HK1.o, post, by rw [HH1.o]; simp, by unfold Hid; rw [HGO.o, HMET.o]; simp, by simp; omega, by rw [QN.o]; simp, QM.o, by rw [HMET.o]; exact QS.o.mono (by simp), h7.trans (((hB2.mono (by omega))).trans (HK1.o.below (by omega) (by rintro k (rfl | rfl) <;> omega))), HLO.o, by omega⟩
    ·have hfe : xT.form = 2 := by simpa using hfm
     have hlook := QS.o.look xT.text hxt
     cases hm : metOf (pre.map (·.T)) xT.text.toList
     ·rw [hm] at hlook
      have hgo : patB p = goP (post.map (·.T)) (pre.length + 1) (fun k => metOf (pre.map (·.T)) k || k == xT.text.toList) := by rw [HS2.o, if_pos hfe, hm]; rfl
      have hmet : metOf ((pre ++ [(⟨xd, xT, .agg #[.int .i64 xT.form, .int .i64 xT.n, .string xT.text, .slice xa xT.parts.length xc]⟩ : PartP)]).map (·.T)) = (fun k => metOf (pre.map (·.T)) k || k == xT.text.toList) := by rw [List.map_append, List.map_cons, List.map_nil, metOf_snoc]; funext k; simp [hfe]
      have HGO := lh hgo; have HMET := lh hmet; clear hgo hmet hfe
      obtain ⟨w5, hput, hset5, hgr5⟩ := QS.o.put xT.text hxt (by unfold maxLen; omega)
      have HSET5 := lh hset5; have HGR5 := lh hgr5; clear hset5 hgr5
      gi_wp2_with fail
      refine ⟨trivial, rfl, (CallsIn.inRound l (callsIn_wide.2 (ask_yes _))).mono ?_⟩
      rintro e w3 ⟨rfl, rfl⟩
      gi_wp2
      have hkp : Kept (fun k => k = w.heap.size ∨ k = w.heap.size + 1) w1 w5 := grown_kept HGR5.o (.inr rfl)
      refine ⟨HK1.o.trans hkp, post, by rw [HH1.o]; simp, by unfold Hid; rw [HGO.o, HMET.o]; simp, by simp; omega, ?_, ?_, by rw [HMET.o]; simpa using HSET5.o, ?_, ?_, ?_⟩
      ·rw [HGR5.o.block _ (by omega) (by simp), QN.o]; simp
      ·rw [HGR5.o.block _ (by omega) (by simp), QM.o]
      ·exact h7.trans (((hB2.mono (by omega))).trans ((HK1.o.trans hkp).below (by omega) (by rintro k (rfl | rfl) <;> omega)))
      ·exact HLO.o.trans (hkp.below (by omega) (by rintro k (rfl | rfl) <;> omega))
      ·have := hkp.size; omega
     ·rw [hm] at hlook
      have HF : Hid (patB p = false) := by unfold Hid; rw [HS2.o, if_pos hfe, hm]; rfl
      clear hfe
      gi_wp2_with fail
      refine ⟨trivial, rfl, (CallsIn.inRound l (callsIn_wide.2 (ask_no _))).mono ?_⟩
      rintro e w3 ⟨rfl, rfl⟩
      gi_wp2
      exact ⟨rfl, HK1.o, rfl, HF, HLO.o⟩
  ·have HF : Hid (patB p = false) := by unfold Hid; rw [HST.o]; simp [h12]
   gi_wp2_with fail
   refine ⟨by first | exact trivial | exact fun _ _ => trivial, ?_⟩
   gi_wp2_with fail
   refine ⟨trivial, rfl, (CallsIn.inRound l (callsIn_wide.2 (ask_no _))).mono ?_⟩
   rintro e w2 ⟨rfl, rfl⟩
   gi_wp2
   exact ⟨rfl, EK.o, rfl, HF, (h8.trans hB2).trans (EK.o.below (by omega) (by rintro k (rfl | rfl) <;> omega))⟩
theorem AskEnd.yes {b : Bool} {e : Ending} (h : AskEnd b e) (hb : b = true) : ∃ v, e = .returned v := by
 rcases h with h | h
 ·exact h.2
 ·rw [hb] at h; cases h.1
theorem AskEnd.no {b : Bool} {e : Ending} (h : AskEnd b e) (hb : b = false) : e = .panicked gaveUp := by
 rcases h with h | h
 ·rw [hb] at h; cases h.1
 ·exact h.2
set_option maxHeartbeats 1000000 in
theorem CheckPat_any (p : Pt) (v : Value) (w : World) (hp : PtAt w.heap.size w p v) (hh : heightP p ≤ 1000) :
  Calls Tryz.prog 31 #[v] w fun e w' => e = .returned (.int .i64 (errOf (patB p))) ∧ Below w.heap.size w w' := by
 obtain ⟨a, cap, rfl, htx⟩ := hp.parts
 have hin : ∀ w1, Below (w.alloc (.cells #[.int .i64 p.form, .int .i64 p.n, .string p.text, .slice a p.parts.length cap] 35)).heap.size (w.alloc (.cells #[.int .i64 p.form, .int .i64 p.n, .string p.text, .slice a p.parts.length cap] 35)) w1 →
   Calls Tryz.prog 85 #[.pointer (some ⟨w.heap.size, 0, none⟩)] w1 fun e w' => AskEnd (patB p) e ∧ Below w1.heap.size w1 w' := fun w1 hb =>
  callsIn_wide.1 (checkPat1_any w.heap.size p _ w.heap.size w1 (PtAt.keep (((Below.refl _ w).alloc (Nat.le_refl _) _).trans (hb.mono (by simp))) (Nat.le_refl _) _ _ hp) (by have := hb.size; simp at this; omega) (bget' hb (heap_alloc_new w _)) hh)
 cases hb : patB p
 ·have hf := formed_no 85 #[.pointer (some ⟨w.heap.size, 0, none⟩)] (w.alloc (.cells #[.int .i64 p.form, .int .i64 p.n, .string p.text, .slice a p.parts.length cap] 35)) (enters_of Tryz.func85 (by kernel_rfl) rfl)
   (fun w1 h1 _ => (hin w1 h1).mono fun e w' h => ⟨h.1.no hb, h.2⟩)
  have HF := lh hf; clear hf hin hb
  go_enter Tryz.func31, Tryz.ntmps31
  go_wp2_with fail
  refine HF.o.mono ?_
  rintro e w2 ⟨rfl, hb2⟩
  go_wp2
  go_ret
  exact ⟨rfl, ((Below.refl _ _).alloc (Nat.le_refl _) _).trans (hb2.mono (by simp))⟩
 ·have hf := formed_yes 85 #[.pointer (some ⟨w.heap.size, 0, none⟩)] (w.alloc (.cells #[.int .i64 p.form, .int .i64 p.n, .string p.text, .slice a p.parts.length cap] 35)) (enters_of Tryz.func85 (by kernel_rfl) rfl)
   (fun w1 h1 _ => (hin w1 h1).mono fun e w' h => ⟨h.1.yes hb, h.2⟩)
  have HF := lh hf; clear hf hin hb
  go_enter Tryz.func31, Tryz.ntmps31
  go_wp2_with fail
  refine HF.o.mono ?_
  rintro e w2 ⟨rfl, hb2⟩
  go_wp2
  go_ret
  exact ⟨rfl, ((Below.refl _ _).alloc (Nat.le_refl _) _).trans (hb2.mono (by simp))⟩
set_option maxHeartbeats 1000000 in
theorem patFormed_any (p : Pt) (v : Value) (w : World) (hp : PtAt w.heap.size w p v) (hh : heightP p ≤ 1000) :
  Calls Tryz.prog 122 #[v] w fun e w' => e = .returned (.bool (patB p)) ∧ Below w.heap.size w w' := by
 obtain ⟨a, cap, rfl, htx⟩ := hp.parts
 have hb1 := (Below.refl w.heap.size w).alloc (Nat.le_refl _) (.cells #[.int .i64 p.form, .int .i64 p.n, .string p.text, .slice a p.parts.length cap] 35)
 have hc := CheckPat_any p _ _ (PtAt.keep hb1 (by simp) _ _ hp) hh
 have HC := lh hc; clear hc hb1
 cases hb : patB p
 ·have h2 : errOf false = 2 := rfl
  rw [hb, h2] at HC
  go_enter Tryz.func122, Tryz.ntmps122
  go_wp2_with fail
  refine HC.o.mono ?_
  rintro e w2 ⟨rfl, hb2⟩
  go_wp2
  go_ret
  exact ⟨rfl, ((Below.refl _ _).alloc (Nat.le_refl _) _).trans (hb2.mono (by simp))⟩
 ·have h2 : errOf true = 0 := rfl
  rw [hb, h2] at HC
  go_enter Tryz.func122, Tryz.ntmps122
  go_wp2_with fail
  refine HC.o.mono ?_
  rintro e w2 ⟨rfl, hb2⟩
  go_wp2
  go_ret
  exact ⟨rfl, ((Below.refl _ _).alloc (Nat.le_refl _) _).trans (hb2.mono (by simp))⟩
def allP (ps : List Pt) : Bool := ps.all patB
theorem allP_drop (ps : List Pt) (k : Nat) (h : k < ps.length) : allP (ps.drop k) = (patB ps[k] && allP (ps.drop (k + 1))) := by
 unfold allP; rw [drop_cons ps k h, List.all_cons]
set_option maxHeartbeats 1000000 in
theorem allP_any (ps : List Pt) (v : Value) (w : World) (hv : SlV w.heap.size v ps.length fun b o => PtsAt w.heap.size w ps b o) (hh : heightsP ps ≤ 1000) :
  Calls Tryz.prog 121 #[v, .func (.func 122) #[] #[]] w fun e w' => e = .returned (.bool (allP ps)) ∧ Below w.heap.size w w' := by
 obtain ⟨a, cap, rfl, hcap, hlc, hka⟩ := hv.split
 clear hv
 unfold maxLen at hcap
 have HKA := lh hka; clear hka
 go_enter Tryz.func121, Tryz.ntmps121
 go_wp2
 go_loopw [9] (fun i wr => ∃ k : Nat, k ≤ ps.length ∧ i = .int .i64 k ∧ Hid (allP ps = allP (ps.drop k)) ∧ Below w.heap.size w wr) (fun i _ => ps.length - (intOf i).toNat)
 case atStart => exact ⟨0, Nat.zero_le _, rfl, rfl, Below.refl _ _⟩
 case round =>
  obtain ⟨k, hk, rfl, HP, hB⟩ := hrel
  by_cases hlt : k < ps.length
  ·obtain ⟨b, o, rfl, hbn, hss⟩ := HKA.o (by omega)
   obtain ⟨c0, c1, c2, c3, g0, g1, g2, g3, ht⟩ := PtsAt.get ps b o hss k hlt
   have q0 := (hB.cell (p := ⟨b, _, none⟩) hbn).trans g0
   have q1 := (hB.cell (p := ⟨b, _, none⟩) hbn).trans g1
   have q2 := (hB.cell (p := ⟨b, _, none⟩) hbn).trans g2
   have q3 := (hB.cell (p := ⟨b, _, none⟩) hbn).trans g3
   clear g0 g1 g2 g3
   obtain ⟨oo, nn, tt, ka, kn, kc, rfl, rfl, rfl, rfl⟩ := ht.shape
   have HD := lh (allP_drop ps k hlt)
   have hhk := heightsP_get ps k hlt
   have hpf := patFormed_any ps[k] _ (wr.alloc (.cells #[.int .i64 oo, .int .i64 nn, .string tt, .slice ka kn kc] 35)) (PtAt.keep (hB.trans ((Below.refl _ wr).alloc hB.size _)) (by have := hB.size; simp; omega) _ _ ht) (by omega)
   have HPF := lh hpf; clear hpf
   have HB := lh hB
   cases hc : patB ps[k]
   ·rw [hc] at HPF
    have HC := lh hc; clear hc
    go_wp2_with fail
    refine HPF.o.mono ?_
    rintro e w2 ⟨rfl, hb2⟩
    go_wp2
    go_ret
    exact ⟨ret_bool (by rw [HP.o, HD.o, HC.o]; rfl), (HB.o.trans ((Below.refl _ wr).alloc HB.o.size _)).trans (hb2.mono (by have := HB.o.size; simp; omega))⟩
   ·rw [hc] at HPF
    have HC := lh hc; clear hc
    go_wp2_with fail
    refine HPF.o.mono ?_
    rintro e w2 ⟨rfl, hb2⟩
    go_wp2
    go_roundw
    case rel => exact ⟨k + 1, by omega, by go_num, by unfold Hid; rw [HP.o, HD.o, HC.o]; rfl, (HB.o.trans ((Below.refl _ wr).alloc HB.o.size _)).trans (hb2.mono (by have := HB.o.size; simp; omega))⟩
    case measure => simp [intOf]; omega
  ·go_wp2
   go_ret
   exact ⟨ret_bool (by rw [HP.o, List.drop_eq_nil_of_le (by omega)]; rfl), hB⟩
end Go.Proofs.YtjpahjfjpkbcnaaGreat
namespace Go.Proofs.YtjpahjfjpkbcnaaGreat
open Go.Proofs Go.RowKit
attribute [local go_sem] Oper.semAt_some
def Tm.op : Tm → Int | .mk o _ _ _ _ => o
def Tm.n : Tm → Int | .mk _ n _ _ _ => n
def Tm.text : Tm → ByteArray | .mk _ _ t _ _ => t
def Tm.kids : Tm → List Tm | .mk _ _ _ l _ => l
def Tm.pats : Tm → List Pt | .mk _ _ _ _ l => l
theorem TmAt.parts {n₀ : Nat} {w : World} {T : Tm} {v : Value} (h : TmAt n₀ w T v) : ∃ a cap a' cap', v = .agg #[.int .i64 T.op, .int .i64 T.n, .string T.text, .slice a T.kids.length cap, .slice a' T.pats.length cap'] ∧ T.text.size ≤ maxLen ∧
  SlV n₀ (.slice a T.kids.length cap) T.kids.length (fun b o => TmsAt n₀ w T.kids b o) ∧ SlV n₀ (.slice a' T.pats.length cap') T.pats.length (fun b o => PtsAt n₀ w T.pats b o) := by
 cases T with
 | mk f n t l q =>
  unfold TmAt at h
  obtain ⟨kv, pv, h1, h2, h3, h4⟩ := h
  obtain ⟨a, cap, rfl, -⟩ := h3.split
  obtain ⟨a', cap', rfl, -⟩ := h4.split
  exact ⟨a, cap, a', cap', h1, h2, h3, h4⟩
theorem cells5 {W : World} {b : Nat} {c0 c1 c2 c3 c4 : Value} {t : TypeId} (h : W.heap[b]? = some (.cells #[c0, c1, c2, c3, c4] t (0, 0))) :
  W.cell? ⟨b, 0, none⟩ = some c0 ∧ W.cell? ⟨b, 1, none⟩ = some c1 ∧ W.cell? ⟨b, 2, none⟩ = some c2 ∧ W.cell? ⟨b, 3, none⟩ = some c3 ∧ W.cell? ⟨b, 4, none⟩ = some c4 :=
 ⟨cell_box h, cell_box h, cell_box h, cell_box h, cell_box h⟩
def patsFitB (op : Int) (ps : List Pt) : Bool := if op = 15 then decide (1 ≤ ps.length) && decide (ps.length ≤ 5) && allP ps else decide (ps.length = 0)
set_option maxHeartbeats 1000000 in
theorem patsFit_any (op n : Int) (text : ByteArray) (ka : Option Addr) (kn kc : Nat) (pv : Value) (ps : List Pt) (w : World) (hv : SlV w.heap.size pv ps.length fun b o => PtsAt w.heap.size w ps b o) (hh : heightsP ps ≤ 1000) :
  Calls Tryz.prog 83 #[.agg #[.int .i64 op, .int .i64 n, .string text, .slice ka kn kc, pv]] w fun e w' => e = .returned (.bool (patsFitB op ps)) ∧ Below w.heap.size w w' := by
 obtain ⟨a, cap, rfl, -⟩ := hv.split
 have hb1 := (Below.refl w.heap.size w).alloc (Nat.le_refl _) (.cells #[.int .i64 op, .int .i64 n, .string text, .slice ka kn kc, .slice a ps.length cap] 32)
 have ha := allP_any ps _ _ (hv.mono (n₁ := (w.alloc (.cells #[.int .i64 op, .int .i64 n, .string text, .slice ka kn kc, .slice a ps.length cap] 32)).heap.size) (by simp) fun b o hlt hr => PtsAt.keep hb1 (by simp) ps b o hlt hr) hh
 have HA := lh ha; clear ha hb1 hv
 by_cases hop : op = 15
 ·by_cases h1 : 1 ≤ ps.length
  ·by_cases h2 : ps.length ≤ 5
   ·have hs : patsFitB op ps = allP ps := by simp [patsFitB, hop, h1, h2]
    have HS := lh hs; clear hs
    have hop' : (op != 15) = false := by simp [hop]
    clear hop
    go_enter Tryz.func83, Tryz.ntmps83
    go_wp2_with fail
    refine HA.o.mono ?_
    rintro e w2 ⟨rfl, hb2⟩
    go_wp2
    go_ret
    exact ⟨ret_bool HS.o.symm, ((Below.refl _ _).alloc (Nat.le_refl _) _).trans (hb2.mono (by simp))⟩
   ·have hs : patsFitB op ps = false := by simp [patsFitB, hop, h2]
    have HS := lh hs; clear hs
    have hop' : (op != 15) = false := by simp [hop]
    clear hop
    go_enter Tryz.func83, Tryz.ntmps83
    go_wp2
    go_ret
    exact ⟨ret_bool HS.o.symm, (Below.refl _ _).alloc (Nat.le_refl _) _⟩
  ·have hs : patsFitB op ps = false := by simp [patsFitB, hop, h1]
   have HS := lh hs; clear hs
   have hop' : (op != 15) = false := by simp [hop]
   clear hop
   go_enter Tryz.func83, Tryz.ntmps83
   go_wp2
   go_ret
   exact ⟨ret_bool HS.o.symm, (Below.refl _ _).alloc (Nat.le_refl _) _⟩
 ·have hs : patsFitB op ps = ((ps.length : Int) == 0) := by rw [Bool.eq_iff_iff]; simp [patsFitB, hop]
  have HS := lh hs; clear hs
  have hop' : (op != 15) = true := by simp [hop]
  clear hop
  go_enter Tryz.func83, Tryz.ntmps83
  go_wp2
  go_ret
  exact ⟨ret_bool HS.o.symm, (Below.refl _ _).alloc (Nat.le_refl _) _⟩
mutual
def okM : Tm → Prop
 | .mk _ _ _ kids pats => pats.length ≤ 1000000 ∧ heightsP pats ≤ 1000 ∧ oksM kids
def oksM : List Tm → Prop
 | [] => True
 | t :: ts => okM t ∧ oksM ts
end
mutual
theorem segM_ok (w : World) : ∀ (T : Tm) (d : Int) (v : Value), okM T → ∀ x ∈ segM w d T v, x.T.pats.length ≤ 1000000 ∧ heightsP x.T.pats ≤ 1000
 | .mk op n text kids pats, d, v, h, x, hx => by
  unfold okM at h
  unfold segM at hx
  rcases List.mem_cons.1 hx with rfl | hx
  ·exact ⟨h.1, h.2.1⟩
  ·exact segsM_ok w kids _ _ _ h.2.2 x hx
theorem segsM_ok (w : World) : ∀ (ts : List Tm) (d : Int) (b o : Nat), oksM ts → ∀ x ∈ segsM w d ts b o, x.T.pats.length ≤ 1000000 ∧ heightsP x.T.pats ≤ 1000
 | [], _, _, _, _, x, hx => by simp [segsM] at hx
 | t :: ts, d, b, o, h, x, hx => by
  unfold oksM at h
  unfold segsM at hx
  rcases List.mem_append.1 hx with hx | hx
  ·exact segM_ok w t _ _ h.1 x hx
  ·exact segsM_ok w ts _ _ _ h.2 x hx
end
def Tm.fits (T : Tm) : Bool := kidsFitB T.op T.kids.length T.pats.length && numberFitsB T.op T.n && textFitsB T.op T.text && patsFitB T.op T.pats
def goM : List (Int × Tm) → Nat → Bool
 | [], _ => true
 | x :: xs, n => decide (n + 1 ≤ 60) && decide (x.1 ≤ 14) && x.2.fits && goM xs (n + 1)
def termB (T : Tm) : Bool := goM (partsM 1 T) 0
set_option maxHeartbeats 4000000 in
set_option maxRecDepth 100000 in
theorem check1_any (n₀ : Nat) (p : Tm) (cs : Array Value) (Bp : Nat) (w : World) (hp : TmAt n₀ w p (.agg cs)) (hn : n₀ ≤ w.heap.size) (hB : w.heap[Bp]? = some (.cells cs 32 (0, 0))) (hh : heightM p ≤ 1000) (hok : okM p) :
  CallsIn Fence.wide 0 Tryz.prog 76 #[.pointer (some ⟨Bp, 0, none⟩)] w fun e w' => AskEnd (termB p) e ∧ Below w.heap.size w w' := by
 obtain ⟨a, cap, a', cap', hcs, htx, -, -⟩ := hp.parts
 cases hcs
 have hlt : Bp < w.heap.size := (Array.getElem?_eq_some_iff.1 hB).1
 refine calls_of_wpF Tryz.func76 rfl ?_
 simp only [Tryz.ntmps76, List.size_toArray, List.length_cons, List.length_nil, Nat.reduceAdd, Nat.reduceSub, Array.replicate_succ, Array.replicate_zero, List.push_toArray, List.append_toArray, List.nil_append, List.cons_append]
 refine wpF_seq ?_
 intro K hK
 refine wpF_of (n := 0) ?_
 gi_wp2
 have hbW : Below w.heap.size w (w.alloc (.cells #[.int .i64 0] 3)) := (Below.refl _ w).alloc (Nat.le_refl _) _
 have hsW : (w.alloc (.cells #[.int .i64 0] 3)).heap.size = w.heap.size + 1 := by simp
 have hnW : (w.alloc (.cells #[.int .i64 0] 3)).heap[w.heap.size]? = some (.cells #[.int .i64 0] 3 (0, 0)) := heap_alloc_new _ _
 generalize (w.alloc (.cells #[.int .i64 0] 3)) = W at *
 have hBW := bget hbW hB hlt
 obtain ⟨c0, c1, c2, c3, c4⟩ := cells5 hBW
 have HSW := lh hsW; have HNW := lh hnW
 clear hsW hnW hBW hB
 refine wpF_seq ?_
 intro K hK
 refine wpF_of (n := 0) ?_
 gi_wp2_with fail
 refine ⟨trivial, rfl, (callsIn_wide.2 (partsM_any W p.op p.n p.text (.slice a p.kids.length cap) (.slice a' p.pats.length cap'))).mono ?_⟩
 rintro e W2 ⟨rfl, hW2⟩
 have hs2 : W2.heap.size = w.heap.size + 3 := by rw [hW2]; simp [HSW.o]
 have hbWW : Below W.heap.size W W2 := by rw [hW2]; exact ((Below.refl _ W).alloc (Nat.le_refl _) _).alloc (by simp) _
 have hb2 : Below w.heap.size w W2 := hbW.trans (hbWW.mono hbW.size)
 have hT2 : W2.heap[W.heap.size]? = some (.cells #[.int .i64 p.op, .int .i64 p.n, .string p.text, .slice a p.kids.length cap, .slice a' p.pats.length cap'] 32 (0, 0)) := by
  rw [hW2, Below.heap_alloc _ _ _ (by simp)]; exact heap_alloc_new _ _
 have hK2 : W2.heap[W.heap.size + 1]? = some (.cells #[.func (.func 78) #[] #[]] 98 (0, 0)) := by
  rw [hW2]; have := heap_alloc_new (W.alloc (.cells #[.int .i64 p.op, .int .i64 p.n, .string p.text, .slice a p.kids.length cap, .slice a' p.pats.length cap'] 32)) (.cells #[.func (.func 78) #[] #[]] 98); simpa using this
 have hp2 : TmAt n₀ W2 p (.agg #[.int .i64 p.op, .int .i64 p.n, .string p.text, .slice a p.kids.length cap, .slice a' p.pats.length cap']) := TmAt.keep (hb2.mono hn) (Nat.le_refl _) _ _ hp
 clear hW2
 gi_wp2
 refine wpF_block ?_
 refine wpF_range (fn := Tryz.f76) rfl (gf := 118) rfl (enters_of Tryz.func118 (by kernel_rfl) rfl) (w0 := W2) (iterM hp2 (by omega) hT2 hK2 hh) (Below.refl _ _) (fun _ => rfl)
  (fun k => k = w.heap.size) ?hS ?hD
  (fun pre V => ∃ post, segM W2 1 p (.agg #[.int .i64 p.op, .int .i64 p.n, .string p.text, .slice a p.kids.length cap, .slice a' p.pats.length cap']) = pre ++ post ∧ Hid (termB p = goM (post.map fun x => (x.d, x.T)) pre.length) ∧ pre.length ≤ 60 ∧
   V.heap[w.heap.size]? = some (.cells #[.int .i64 pre.length] 3 (0, 0)) ∧ Below n₀ W2 V ∧ Below w.heap.size w V ∧ w.heap.size + 3 ≤ V.heap.size)
  (fun _ _ => False) (fun ch V => ch = gaveUp ∧ Hid (termB p = false) ∧ Below w.heap.size w V) ?hI ?hIx ?h0 ?hround ?hdone ?hstop ?hpanic
 case hS => have := HSW.out; rintro k rfl; omega
 case hD => have := HSW.out; rintro k (h | rfl | rfl) <;> omega
 case hI =>
  rintro pre V1 V2 ⟨post, h1, h2, h3, h4, h7, h8, h9⟩ hV
  exact ⟨post, h1, h2, h3, bget hV h4 (by omega), h7.trans (hV.mono (by omega)), h8.trans (hV.mono (by omega)), Nat.le_trans h9 hV.size⟩
 case hIx => intro _ _ _ h; exact h.elim
 case h0 =>
  refine ⟨_, (List.nil_append _).symm, ?_, by simp, bget hbWW HNW.o (by have := HSW.out; omega), Below.refl _ _, hb2, by omega⟩
  unfold Hid termB
  rw [← segM_map W2 p 1 (.agg #[.int .i64 p.op, .int .i64 p.n, .string p.text, .slice a p.kids.length cap, .slice a' p.pats.length cap'])]
  rfl
 case hstop => intro _ _ _ _ h; exact h.elim
 case hdone =>
  rintro E V hE ⟨post, h1, h2, h3, h4, h7, h8, h9⟩ hV
  have hpn : post = [] := by have := congrArg List.length h1; simp at this; exact this
  subst hpn
  refine leavesM_mark (by simp) hV ?_
  exact ⟨_, results_none rfl _ _ _, .inl ⟨h2.o, _, rfl⟩, h8.trans (below_putObj _ (by omega) _)⟩
 case hpanic =>
  rintro E ch V hE ⟨rfl, h2, h3⟩ hV
  refine leavesM_mark (by simp) hV ?_
  exact ⟨.inr ⟨h2.o, rfl⟩, h3.trans (below_putObj _ (by omega) _)⟩
 case hround =>
  rintro l pre x post V hl hlV hx ⟨post', h1, h2, h3, h4, h7, h8, h9⟩
  obtain rfl : post' = x :: post := List.append_cancel_left (h1.symm.trans hx)
  have hxa := segM_at p _ 1 hp2 x (by rw [h1]; simp)
  have hxo := segM_ok W2 p 1 _ hok x (by rw [h1]; simp)
  obtain ⟨xd, xT, xv⟩ := x
  simp only at hxa hxo
  obtain ⟨xa, xc, xa', xc', rfl, hxt, hxk, hxp⟩ := hxa.parts
  have hstep : termB p = (decide (pre.length + 1 ≤ 60) && decide (xd ≤ 14) && xT.fits && goM (post.map fun x => (x.d, x.T)) (pre.length + 1)) := h2.o
  have HST := lh hstep; clear hstep h2
  have HH1 := lh h1; have H4 := lh h4; have HXP := lh hxp
  clear h1 hx h4 hxk hxp
  dsimp only [encM]
  simp only [List.zip_toArray, List.zip_cons_cons, List.zip_nil_right, List.foldl_toArray', List.foldl_cons, List.foldl_nil, List.setIfInBounds_toArray, List.set_cons_succ, List.set_cons_zero]
  gi_wp2
  refine ⟨(Below.refl _ _).alloc (Nat.le_refl _) _, fun V2 hk2 => ?_⟩
  have hbox := hk2.get (heap_alloc_new V (.cells #[.int .i64 xT.op, .int .i64 xT.n, .string xT.text, .slice xa xT.kids.length xc, .slice xa' xT.pats.length xc'] 32)) (by omega)
  have hN2 := hk2.get (bget' ((Below.refl V.heap.size V).alloc (Nat.le_refl _) (.cells #[.int .i64 xT.op, .int .i64 xT.n, .string xT.text, .slice xa xT.kids.length xc, .slice xa' xT.pats.length xc'] 32)) H4.o) (by omega)
  have hB2 : Below w.heap.size V V2 := ((Below.refl w.heap.size V).alloc (by omega) _).trans (hk2.below (by simp; omega) (by rintro k rfl; omega))
  have e0 : (V2.setCell ⟨w.heap.size, 0, none⟩ (.int .i64 (pre.length + 1))).heap[V.heap.size]? = _ := (Below.heap_setCell _ _ _ _ (by simp; omega)).trans hbox
  have en : (V2.setCell ⟨w.heap.size, 0, none⟩ (.int .i64 (pre.length + 1))).heap[w.heap.size]? = _ := one_setCell hN2
  have ek : Kept (fun k => k = w.heap.size) V2 (V2.setCell ⟨w.heap.size, 0, none⟩ (.int .i64 (pre.length + 1))) := .setCell (S := fun k => k = w.heap.size) _ rfl _
  have hVle := hB2.size
  have n0 := cell_of_one hN2
  have n1 := free_of_one hN2
  have n2 := cell_of_one en
  obtain ⟨b0, b1, b2, b3, b4⟩ := cells5 e0
  have hV3 : Below n₀ W2 (V2.setCell ⟨w.heap.size, 0, none⟩ (.int .i64 (pre.length + 1))) := h7.trans ((hB2.mono (by omega)).trans (ek.below (by omega) (by rintro k rfl; omega)))
  have hL3 : Below w.heap.size w (V2.setCell ⟨w.heap.size, 0, none⟩ (.int .i64 (pre.length + 1))) := (h8.trans hB2).trans (ek.below (by omega) (by rintro k rfl; omega))
  have E0 := lh e0; have EN := lh en; have EK := lh ek; have HV3 := lh hV3; have HL3 := lh hL3
  clear e0 en ek hbox hN2 hV3 hL3
  have fin : ∀ V4, Below (V2.setCell ⟨w.heap.size, 0, none⟩ (.int .i64 (pre.length + 1))).heap.size (V2.setCell ⟨w.heap.size, 0, none⟩ (.int .i64 (pre.length + 1))) V4 →
    Kept (fun k => k = w.heap.size) V2 V4 ∧ Below w.heap.size w V4 := fun V4 hb =>
   ⟨EK.o.trans (.of_below hb), HL3.o.trans (hb.mono HL3.o.size)⟩
  have FIN := lh fin; clear fin
  by_cases h12 : pre.length + 1 ≤ 60
  ·by_cases h14 : xd ≤ 14
   ·cases hf1 : kidsFitB xT.op xT.kids.length xT.pats.length
    ·have HF : Hid (termB p = false) := by unfold Hid; rw [HST.o]; simp [Tm.fits, hf1]
     gi_wp2_with fail
     refine ⟨trivial, rfl, (CallsIn.inRound l (callsIn_wide.2 (ask_yes _))).mono ?_⟩
     rintro e w0 ⟨rfl, rfl⟩
     gi_wp2_with fail
     refine ⟨trivial, rfl, (CallsIn.inRound l (callsIn_wide.2 (kidsFit_any _ _ _ _ _ _ _ _ _ _ hxo.1))).mono ?_⟩
     rintro e w1 ⟨rfl, hb1⟩
     rw [hf1]
     have hbA := hb1
     gi_wp2_with fail
     refine ⟨by first | exact trivial | exact fun _ _ => trivial, ?_⟩
     gi_wp2_with fail
     refine ⟨by first | exact trivial | exact fun _ _ => trivial, ?_⟩
     gi_wp2_with fail
     refine ⟨by first | exact trivial | exact fun _ _ => trivial, ?_⟩
     gi_wp2_with fail
     refine ⟨trivial, rfl, (CallsIn.inRound l (callsIn_wide.2 (ask_no _))).mono ?_⟩
     rintro e w9 ⟨rfl, rfl⟩
     gi_wp2
     exact ⟨rfl, (FIN.o _ hbA).1, rfl, HF, (FIN.o _ hbA).2⟩
    ·cases hf2 : numberFitsB xT.op xT.n
     ·have HF : Hid (termB p = false) := by unfold Hid; rw [HST.o]; simp [Tm.fits, hf1, hf2]
      gi_wp2_with fail
      refine ⟨trivial, rfl, (CallsIn.inRound l (callsIn_wide.2 (ask_yes _))).mono ?_⟩
      rintro e w0 ⟨rfl, rfl⟩
      gi_wp2_with fail
      refine ⟨trivial, rfl, (CallsIn.inRound l (callsIn_wide.2 (kidsFit_any _ _ _ _ _ _ _ _ _ _ hxo.1))).mono ?_⟩
      rintro e w1 ⟨rfl, hb1⟩
      rw [hf1]
      have hbA := hb1
      have q1 := bget' hb1 E0.o
      clear b0 b1 b2 b3 b4
      obtain ⟨b0, b1, b2, b3, b4⟩ := cells5 q1
      gi_wp2_with fail
      refine ⟨trivial, rfl, (CallsIn.inRound l (callsIn_wide.2 (numberFits_any _ _ _ _ _ _ _ _ _ _))).mono ?_⟩
      rintro e w2 ⟨rfl, hb2⟩
      rw [hf2]
      have hbA := hbA.trans (hb2.mono hbA.size)
      gi_wp2_with fail
      refine ⟨by first | exact trivial | exact fun _ _ => trivial, ?_⟩
      gi_wp2_with fail
      refine ⟨by first | exact trivial | exact fun _ _ => trivial, ?_⟩
      gi_wp2_with fail
      refine ⟨trivial, rfl, (CallsIn.inRound l (callsIn_wide.2 (ask_no _))).mono ?_⟩
      rintro e w9 ⟨rfl, rfl⟩
      gi_wp2
      exact ⟨rfl, (FIN.o _ hbA).1, rfl, HF, (FIN.o _ hbA).2⟩
     ·cases hf3 : textFitsB xT.op xT.text
      ·have HF : Hid (termB p = false) := by unfold Hid; rw [HST.o]; simp [Tm.fits, hf1, hf2, hf3]
       gi_wp2_with fail
       refine ⟨trivial, rfl, (CallsIn.inRound l (callsIn_wide.2 (ask_yes _))).mono ?_⟩
       rintro e w0 ⟨rfl, rfl⟩
       gi_wp2_with fail
       refine ⟨trivial, rfl, (CallsIn.inRound l (callsIn_wide.2 (kidsFit_any _ _ _ _ _ _ _ _ _ _ hxo.1))).mono ?_⟩
       rintro e w1 ⟨rfl, hb1⟩
       rw [hf1]
       have hbA := hb1
       have q1 := bget' hb1 E0.o
       clear b0 b1 b2 b3 b4
       obtain ⟨b0, b1, b2, b3, b4⟩ := cells5 q1
       gi_wp2_with fail
       refine ⟨trivial, rfl, (CallsIn.inRound l (callsIn_wide.2 (numberFits_any _ _ _ _ _ _ _ _ _ _))).mono ?_⟩
       rintro e w2 ⟨rfl, hb2⟩
       rw [hf2]
       have hbA := hbA.trans (hb2.mono hbA.size)
       have q2 := bget' hb2 q1
       clear b0 b1 b2 b3 b4
       obtain ⟨b0, b1, b2, b3, b4⟩ := cells5 q2
       gi_wp2_with fail
       refine ⟨trivial, rfl, (CallsIn.inRound l (callsIn_wide.2 (textFits_any _ _ _ _ _ _ _ _ _ _))).mono ?_⟩
       rintro e w3 ⟨rfl, hb3⟩
       rw [hf3]
       have hbA := hbA.trans (hb3.mono hbA.size)
       gi_wp2_with fail
       refine ⟨by first | exact trivial | exact fun _ _ => trivial, ?_⟩
       gi_wp2_with fail
       refine ⟨trivial, rfl, (CallsIn.inRound l (callsIn_wide.2 (ask_no _))).mono ?_⟩
       rintro e w9 ⟨rfl, rfl⟩
       gi_wp2
       exact ⟨rfl, (FIN.o _ hbA).1, rfl, HF, (FIN.o _ hbA).2⟩
      ·cases hf4 : patsFitB xT.op xT.pats
       ·have HF : Hid (termB p = false) := by unfold Hid; rw [HST.o]; simp [Tm.fits, hf1, hf2, hf3, hf4]
        gi_wp2_with fail
        refine ⟨trivial, rfl, (CallsIn.inRound l (callsIn_wide.2 (ask_yes _))).mono ?_⟩
        rintro e w0 ⟨rfl, rfl⟩
        gi_wp2_with fail
        refine ⟨trivial, rfl, (CallsIn.inRound l (callsIn_wide.2 (kidsFit_any _ _ _ _ _ _ _ _ _ _ hxo.1))).mono ?_⟩
        rintro e w1 ⟨rfl, hb1⟩
        rw [hf1]
        have hbA := hb1
        have q1 := bget' hb1 E0.o
        clear b0 b1 b2 b3 b4
        obtain ⟨b0, b1, b2, b3, b4⟩ := cells5 q1
        gi_wp2_with fail
        refine ⟨trivial, rfl, (CallsIn.inRound l (callsIn_wide.2 (numberFits_any _ _ _ _ _ _ _ _ _ _))).mono ?_⟩
        rintro e w2 ⟨rfl, hb2⟩
        rw [hf2]
        have hbA := hbA.trans (hb2.mono hbA.size)
        have q2 := bget' hb2 q1
        clear b0 b1 b2 b3 b4
        obtain ⟨b0, b1, b2, b3, b4⟩ := cells5 q2
        gi_wp2_with fail
        refine ⟨trivial, rfl, (CallsIn.inRound l (callsIn_wide.2 (textFits_any _ _ _ _ _ _ _ _ _ _))).mono ?_⟩
        rintro e w3 ⟨rfl, hb3⟩
        rw [hf3]
        have hbA := hbA.trans (hb3.mono hbA.size)
        have q3 := bget' hb3 q2
        clear b0 b1 b2 b3 b4
        obtain ⟨b0, b1, b2, b3, b4⟩ := cells5 q3
        have hpf : SlV w3.heap.size (.slice xa' xT.pats.length xc') xT.pats.length (fun b o => PtsAt w3.heap.size w3 xT.pats b o) := HXP.o.mono (by have := hbA.size; have := HV3.o.size; omega) fun b o hlt hr => PtsAt.keep (HV3.o.trans (hbA.mono (by have := HV3.o.size; omega))) (by have := hbA.size; have := HV3.o.size; omega) _ _ _ hlt hr
        gi_wp2_with fail
        refine ⟨trivial, rfl, (CallsIn.inRound l (callsIn_wide.2 (patsFit_any _ _ _ _ _ _ _ xT.pats _ hpf hxo.2))).mono ?_⟩
        rintro e w4 ⟨rfl, hb4⟩
        rw [hf4]
        have hbA := hbA.trans (hb4.mono hbA.size)
        gi_wp2_with fail
        refine ⟨trivial, rfl, (CallsIn.inRound l (callsIn_wide.2 (ask_no _))).mono ?_⟩
        rintro e w9 ⟨rfl, rfl⟩
        gi_wp2
        exact ⟨rfl, (FIN.o _ hbA).1, rfl, HF, (FIN.o _ hbA).2⟩
       ·have hst2 : termB p = goM (post.map fun x => (x.d, x.T)) (pre.length + 1) := by rw [HST.o]; simp [Tm.fits, hf1, hf2, hf3, hf4, h12, h14]
        have HS2 := lh hst2; clear hst2
        gi_wp2_with fail
        refine ⟨trivial, rfl, (CallsIn.inRound l (callsIn_wide.2 (ask_yes _))).mono ?_⟩
        rintro e w0 ⟨rfl, rfl⟩
        gi_wp2_with fail
        refine ⟨trivial, rfl, (CallsIn.inRound l (callsIn_wide.2 (kidsFit_any _ _ _ _ _ _ _ _ _ _ hxo.1))).mono ?_⟩
        rintro e w1 ⟨rfl, hb1⟩
        rw [hf1]
        have hbA := hb1
        have q1 := bget' hb1 E0.o
        clear b0 b1 b2 b3 b4
        obtain ⟨b0, b1, b2, b3, b4⟩ := cells5 q1
        gi_wp2_with fail
        refine ⟨trivial, rfl, (CallsIn.inRound l (callsIn_wide.2 (numberFits_any _ _ _ _ _ _ _ _ _ _))).mono ?_⟩
        rintro e w2 ⟨rfl, hb2⟩
        rw [hf2]
        have hbA := hbA.trans (hb2.mono hbA.size)
        have q2 := bget' hb2 q1
        clear b0 b1 b2 b3 b4
        obtain ⟨b0, b1, b2, b3, b4⟩ := cells5 q2
        gi_wp2_with fail
        refine ⟨trivial, rfl, (CallsIn.inRound l (callsIn_wide.2 (textFits_any _ _ _ _ _ _ _ _ _ _))).mono ?_⟩
        rintro e w3 ⟨rfl, hb3⟩
        rw [hf3]
        have hbA := hbA.trans (hb3.mono hbA.size)
        have q3 := bget' hb3 q2
        clear b0 b1 b2 b3 b4
        obtain ⟨b0, b1, b2, b3, b4⟩ := cells5 q3
        have hpf : SlV w3.heap.size (.slice xa' xT.pats.length xc') xT.pats.length (fun b o => PtsAt w3.heap.size w3 xT.pats b o) := HXP.o.mono (by have := hbA.size; have := HV3.o.size; omega) fun b o hlt hr => PtsAt.keep (HV3.o.trans (hbA.mono (by have := HV3.o.size; omega))) (by have := hbA.size; have := HV3.o.size; omega) _ _ _ hlt hr
        gi_wp2_with fail
        refine ⟨trivial, rfl, (CallsIn.inRound l (callsIn_wide.2 (patsFit_any _ _ _ _ _ _ _ xT.pats _ hpf hxo.2))).mono ?_⟩
        rintro e w4 ⟨rfl, hb4⟩
        rw [hf4]
        have hbA := hbA.trans (hb4.mono hbA.size)
        gi_wp2_with fail
        refine ⟨trivial, rfl, (CallsIn.inRound l (callsIn_wide.2 (ask_yes _))).mono ?_⟩
        rintro e w9 ⟨rfl, rfl⟩
        gi_wp2
        exact ⟨EK.o.trans (.of_below hbA), post, by rw [HH1.o]; simp, by unfold Hid; rw [HS2.o]; simp, by simp; omega, by rw [bget' hbA EN.o]; simp, HV3.o.trans (hbA.mono (by have := HV3.o.size; omega)), HL3.o.trans (hbA.mono HL3.o.size), by have := hbA.size; have := EK.o.size; omega⟩
   ·have HF : Hid (termB p = false) := by unfold Hid; rw [HST.o]; simp [h14]
    gi_wp2_with fail
    refine ⟨trivial, rfl, (CallsIn.inRound l (callsIn_wide.2 (ask_no _))).mono ?_⟩
    rintro e w9 ⟨rfl, rfl⟩
    gi_wp2
    exact ⟨rfl, (FIN.o _ (Below.refl _ _)).1, rfl, HF, (FIN.o _ (Below.refl _ _)).2⟩
  ·have HF : Hid (termB p = false) := by unfold Hid; rw [HST.o]; simp [h12]
   gi_wp2_with fail
   refine ⟨trivial, rfl, (CallsIn.inRound l (callsIn_wide.2 (ask_no _))).mono ?_⟩
   rintro e w9 ⟨rfl, rfl⟩
   gi_wp2
   exact ⟨rfl, (FIN.o _ (Below.refl _ _)).1, rfl, HF, (FIN.o _ (Below.refl _ _)).2⟩
set_option maxHeartbeats 1000000 in
theorem Check_any (p : Tm) (v : Value) (w : World) (hp : TmAt w.heap.size w p v) (hh : heightM p ≤ 1000) (hok : okM p) :
  Calls Tryz.prog 29 #[v] w fun e w' => e = .returned (.int .i64 (errOf (termB p))) ∧ Below w.heap.size w w' := by
 obtain ⟨a, cap, a', cap', rfl, htx, -, -⟩ := hp.parts
 have hin : ∀ w1, Below (w.alloc (.cells #[.int .i64 p.op, .int .i64 p.n, .string p.text, .slice a p.kids.length cap, .slice a' p.pats.length cap'] 32)).heap.size (w.alloc (.cells #[.int .i64 p.op, .int .i64 p.n, .string p.text, .slice a p.kids.length cap, .slice a' p.pats.length cap'] 32)) w1 →
   Calls Tryz.prog 76 #[.pointer (some ⟨w.heap.size, 0, none⟩)] w1 fun e w' => AskEnd (termB p) e ∧ Below w1.heap.size w1 w' := fun w1 hb =>
  callsIn_wide.1 (check1_any w.heap.size p _ w.heap.size w1 (TmAt.keep (((Below.refl _ w).alloc (Nat.le_refl _) _).trans (hb.mono (by simp))) (Nat.le_refl _) _ _ hp) (by have := hb.size; simp at this; omega) (bget' hb (heap_alloc_new w _)) hh hok)
 cases hb : termB p
 ·have hf := formed_no 76 #[.pointer (some ⟨w.heap.size, 0, none⟩)] (w.alloc (.cells #[.int .i64 p.op, .int .i64 p.n, .string p.text, .slice a p.kids.length cap, .slice a' p.pats.length cap'] 32)) (enters_of Tryz.func76 (by kernel_rfl) rfl)
   (fun w1 h1 _ => (hin w1 h1).mono fun e w' h => ⟨h.1.no hb, h.2⟩)
  have HF := lh hf; clear hf hin hb
  go_enter Tryz.func29, Tryz.ntmps29
  go_wp2_with fail
  refine HF.o.mono ?_
  rintro e w2 ⟨rfl, hb2⟩
  go_wp2
  go_ret
  exact ⟨rfl, ((Below.refl _ _).alloc (Nat.le_refl _) _).trans (hb2.mono (by simp))⟩
 ·have hf := formed_yes 76 #[.pointer (some ⟨w.heap.size, 0, none⟩)] (w.alloc (.cells #[.int .i64 p.op, .int .i64 p.n, .string p.text, .slice a p.kids.length cap, .slice a' p.pats.length cap'] 32)) (enters_of Tryz.func76 (by kernel_rfl) rfl)
   (fun w1 h1 _ => (hin w1 h1).mono fun e w' h => ⟨h.1.yes hb, h.2⟩)
  have HF := lh hf; clear hf hin hb
  go_enter Tryz.func29, Tryz.ntmps29
  go_wp2_with fail
  refine HF.o.mono ?_
  rintro e w2 ⟨rfl, hb2⟩
  go_wp2
  go_ret
  exact ⟨rfl, ((Below.refl _ _).alloc (Nat.le_refl _) _).trans (hb2.mono (by simp))⟩
end Go.Proofs.YtjpahjfjpkbcnaaGreat
namespace Go.Proofs.YtjpahjfjpkbcnaaGreat
open Go.Proofs Go.RowKit
theorem Tz.info35 : (Tryz.prog.info? 35).map (fun i => (i.zero, i.size, i.bytes)) = some (some (.agg #[.int .i64 0, .int .i64 0, .string ⟨#[]⟩, .slice none 0 0]), 4, 56) := by kernel_rfl
theorem Tz.info32 : (Tryz.prog.info? 32).map (fun i => (i.zero, i.size, i.bytes)) = some (some (.agg #[.int .i64 0, .int .i64 0, .string ⟨#[]⟩, .slice none 0 0, .slice none 0 0]), 5, 80) := by kernel_rfl
theorem Tz.info9 : (Tryz.prog.info? 9).map (fun i => (i.zero, i.size, i.bytes)) = some (some (.string ⟨#[]⟩), 1, 16) := by kernel_rfl
theorem cells_new (w : World) (cs : List Value) (t : TypeId) : ∀ j u, cs[j]? = some u → (w.alloc (.cells cs.toArray t)).cell? ((⟨w.heap.size, 0, none⟩ : Addr).add j) = some u := by
 intro j u hj
 have : ((⟨w.heap.size, 0, none⟩ : Addr).add j) = ⟨w.heap.size, j, none⟩ := by unfold Addr.add; split <;> simp_all
 rw [this, cell_box (heap_alloc_new w (.cells cs.toArray t))]
 simpa using hj
theorem cells4 {W : World} {b : Nat} {c0 c1 c2 c3 : Value} {t : TypeId} (h : W.heap[b]? = some (.cells #[c0, c1, c2, c3] t (0, 0))) :
  W.cell? ⟨b, 0, none⟩ = some c0 ∧ W.cell? ⟨b, 1, none⟩ = some c1 ∧ W.cell? ⟨b, 2, none⟩ = some c2 ∧ W.cell? ⟨b, 3, none⟩ = some c3 :=
 ⟨cell_box h, cell_box h, cell_box h, cell_box h⟩
theorem box_setCell {W : World} {b : Nat} {cs : Array Value} {t : TypeId} (h : W.heap[b]? = some (.cells cs t (0, 0))) (j : Nat) (u : Value) : (W.setCell ⟨b, j, none⟩ u).heap[b]? = some (.cells (cs.setIfInBounds j u) t (0, 0)) := by
 have hlt := lt_of_block h
 have h' : W.heap[b] = .cells cs t (0, 0) := by simpa [Array.getElem?_eq_getElem hlt] using h
 show (W.heap.modify b _)[b]? = _
 rw [Array.getElem?_eq_getElem (by simpa using hlt), Array.getElem_modify_self, h']
 rfl
theorem free_box {W : World} {b : Nat} {cs : Array Value} {t : TypeId} (h : W.heap[b]? = some (.cells cs t (0, 0))) : ∀ j, W.frozen? ⟨b, j, none⟩ = false := fun j => by simp [World.frozen?, h]
mutual
def lensP : Pt → Prop | .mk _ _ _ parts => parts.length ≤ 1000000 ∧ lenssP parts
def lenssP : List Pt → Prop | [] => True | p :: ps => lensP p ∧ lenssP ps
end
theorem lensP_get : ∀ {ps : List Pt}, lenssP ps → ∀ (k : Nat) (h : k < ps.length), lensP ps[k]
 | p :: ps, h, 0, _ => by unfold lenssP at h; exact h.1
 | p :: ps, h, k + 1, hk => by unfold lenssP at h; exact lensP_get h.2 k (by simpa using hk)
def Own (W W' : World) (v : Value) (b : Nat) : Prop := W.heap.size ≤ b ∧ b < W'.heap.size ∧ v.ownBlock ≠ some b
theorem own_step {w wr w1 w' : World} {vo v' : Value} {X : Obj} (hB : Below w.heap.size w wr) (hb1 : Below wr.heap.size wr w1) (hown : ∀ k, vo.ownBlock = some k → w.heap.size ≤ k ∧ k < wr.heap.size)
  (hgr : (w1.alloc X).grownBy w' vo.ownBlock) (hat : v'.ownBlock = vo.ownBlock ∨ v'.ownBlock = some (w1.alloc X).heap.size) :
  (∀ b, Own w wr vo b → w'.heap[b]? = wr.heap[b]?) ∧ (∀ b, Own w wr vo b → Own w w' v' b) ∧ (∀ b, wr.heap.size ≤ b → b < w1.heap.size → w'.heap[b]? = w1.heap[b]? ∧ Own w w' v' b) ∧ Below w.heap.size w w' := by
 have hs := hB.size
 have hs1 := hb1.size
 have hs2 := hgr.size
 simp at hs2
 have keep : ∀ b, b < w1.heap.size → vo.ownBlock ≠ some b → w'.heap[b]? = w1.heap[b]? := fun b hb hne =>
  (hgr.block b (by simp; omega) (fun e => hne e.symm)).trans (Below.heap_alloc _ _ _ hb)
 have own' : ∀ b, w.heap.size ≤ b → b < w1.heap.size → vo.ownBlock ≠ some b → Own w w' v' b := fun b h1 h2 h3 => by
  refine ⟨h1, by omega, fun e => ?_⟩
  rcases hat with h | h
  ·exact h3 (h ▸ e)
  ·rw [h] at e; simp at e; omega
 refine ⟨fun b h => (keep b (by have := h.2.1; omega) h.2.2).trans (hb1.block b h.2.1), fun b h => own' b h.1 (by have := h.2.1; omega) h.2.2, fun b h1 h2 => ?_, ?_⟩
 ·have hne : vo.ownBlock ≠ some b := fun e => by have := (hown b e).2; omega
  exact ⟨keep b h2 hne, own' b (by omega) h2 hne⟩
 ·refine ⟨hgr.os.trans (hb1.os.trans hB.os), hgr.tape.trans (hb1.tape.trans hB.tape), hgr.output.trans (hb1.output.trans hB.output), by omega, fun b hb => ?_⟩
  have hne : vo.ownBlock ≠ some b := fun e => by have := (hown b e).1; omega
  exact (keep b (by omega) hne).trans ((hb1.block b (by omega)).trans (hB.block b hb))
set_option maxHeartbeats 2000000 in
set_option maxRecDepth 100000 in
theorem eachP_any (g : FuncId) (caps : Array Value) (eg : ∀ args w, (callFunc g args).run Tryz.prog w = .ok (.enter g args) w) (f : Pt → Pt) (ps : List Pt) (v : Value) (w : World) (hv : SlV w.heap.size v ps.length fun b o => PtsAt w.heap.size w ps b o) (hl : ps.length ≤ 1000000)
  (hcall : ∀ (k : Nat) (hk : k < ps.length) (v1 : Value) (W : World), Below w.heap.size w W → PtAt W.heap.size W ps[k] v1 → Calls Tryz.prog g (#[v1] ++ caps) W fun e W' => (∃ v2, e = .returned v2 ∧ PtNew W W' (f ps[k]) v2) ∧ Below W.heap.size W W') :
  Calls Tryz.prog 133 #[v, .func (.func g) #[] caps] w fun e w' => (∃ v', e = .returned v' ∧ SlIn (Fresh w w') v' ps.length fun b o => PtsIn (Fresh w w') w' (ps.map f) b o) ∧ Below w.heap.size w w' := by
 obtain ⟨i0, hi, hz0, hz1, hz2⟩ := info_parts Tz.info35
 obtain ⟨a, cap, rfl, hcap, hlc, hka⟩ := hv.split
 clear hv
 unfold maxLen at hcap
 have HKA := lh hka; have HCL := lh hcall; have EG := lh eg; clear hka hcall eg
 go_enter Tryz.func133, Tryz.ntmps133
 go_wp2
 go_loopw [5, 10] (fun vo i wr => ∃ (k : Nat) (xs : List Value), k ≤ ps.length ∧ i = .int .i64 k ∧ wr.ownsRow w.heap.size 35 4 vo k xs ∧ FlatP (Own w wr vo) wr ((ps.take k).map f) xs ∧ Below w.heap.size w wr) (fun _ i _ => ps.length - (intOf i).toNat)
 case atStart => exact ⟨0, [], Nat.zero_le _, rfl, World.ownsRow_nil _ _ _ _, rfl, Below.refl _ _⟩
 case round =>
  obtain ⟨k, xs, hk, rfl, hrow, hflat, hB⟩ := hrel
  by_cases hlt : k < ps.length
  ·obtain ⟨b, o, rfl, hbn, hss⟩ := HKA.o (by omega)
   obtain ⟨c0, c1, c2, c3, g0, g1, g2, g3, ht⟩ := PtsAt.get ps b o hss k hlt
   have q0 := (hB.cell (p := ⟨b, _, none⟩) hbn).trans g0
   have q1 := (hB.cell (p := ⟨b, _, none⟩) hbn).trans g1
   have q2 := (hB.cell (p := ⟨b, _, none⟩) hbn).trans g2
   have q3 := (hB.cell (p := ⟨b, _, none⟩) hbn).trans g3
   clear g0 g1 g2 g3
   obtain ⟨oo, nn, tt, ka, kn, kc, rfl, rfl, rfl, rfl⟩ := ht.shape
   have hBa : Below w.heap.size w (wr.alloc (.cells #[.int .i64 oo, .int .i64 nn, .string tt, .slice ka kn kc] 35)) := hB.trans ((Below.refl _ wr).alloc hB.size _)
   have hcl := HCL.o k hlt _ (wr.alloc (.cells #[.int .i64 oo, .int .i64 nn, .string tt, .slice ka kn kc] 35)) hBa (PtAt.keep hBa (by have := hB.size; simp; omega) _ _ ht)
   have HC := lh hcl; have HB := lh hB; have HROW := lh hrow; have HFLAT := lh hflat
   have eg := EG.o
   clear hcl hB hrow hflat hBa
   go_wp2_with fail
   refine HC.o.mono ?_
   rintro e w1 ⟨⟨v2, rfl, hnew⟩, hb1⟩
   have hsz := HB.o.size
   have hb1' : Below wr.heap.size wr w1 := ((Below.refl _ wr).alloc (Nat.le_refl _) _).trans (hb1.mono (by simp))
   have hsz1 := hb1'.size
   have hb1s := hb1.size
   simp at hb1s
   obtain ⟨o2, n2, t2, ka2, kn2, kc2, rfl⟩ := PtIn.shape hnew
   have hown1 : ∀ kk, u5.ownBlock = some kk → w.heap.size ≤ kk ∧ kk < wr.heap.size := fun kk h => HROW.o.lt kk h
   have hrow1 : w1.ownsRow w.heap.size 35 4 u5 k xs := HROW.o.kept (row := none) ⟨hb1'.os, hb1'.tape, hb1'.output, hb1'.size, fun i hi _ => hb1'.block i hi⟩ (by cases u5.ownBlock <;> simp)
   have hrow2 := hrow1.alloc (.cells #[.int .i64 o2, .int .i64 n2, .string t2, .slice ka2 kn2 kc2] 35)
   have HNEW := lh hnew; have HB1 := lh hb1; have HB1' := lh hb1'; have HR2 := lh hrow2; have HO1 := lh hown1
   have hnews := cells_new w1 [.int .i64 o2, .int .i64 n2, .string t2, .slice ka2 kn2 kc2] 35
   have HNW := lh hnews
   have hone : ∀ u ∈ [Value.int .i64 o2, .int .i64 n2, .string t2, .slice ka2 kn2 kc2], u.oneCell' = true := by intro u hu; simp at hu; rcases hu with rfl | rfl | rfl | rfl <;> rfl
   have HONE := lh hone
   clear hnew hb1 hb1' hrow1 hrow2 hown1 hnews hone
   go_wp2_with (at_builtin; refine wpList_append_own_at _ rfl _ _ 30 rfl w.heap.size 35 i0 _ 4 56 Tryz.underlying30 hi hz0 hz1 hz2 rfl (by decide) u5 k xs rfl HR2.o ⟨w1.heap.size, 0, none⟩ 1 1 [.int .i64 o2, .int .i64 n2, .string t2, .slice ka2 kn2 kc2] rfl rfl HNW.o HONE.o (by unfold maxLen; omega) (by omega) (by simp; omega) ?_; intro v' w' hown' hgr hnil hat; have HOWN := lh hown'; have HGR := lh hgr; have HAT := lh hat; clear hown' hgr hnil hat)
   go_roundw
   case rel =>
    obtain ⟨s1, s2, s3, s4⟩ := own_step HB.o HB1'.o HO1.o HGR.o HAT.o
    refine ⟨k + 1, _, by omega, by go_num, HOWN.o, ?_, s4⟩
    rw [List.take_succ_eq_append_getElem hlt, List.map_append, List.map_cons, List.map_nil]
    exact FlatP.snoc (PtIn.keep (fun b h => (s3 b (by have := h.1; simp at this; omega) h.2).1) (fun b h => (s3 b (by have := h.1; simp at this; omega) h.2).2) _ _ HNEW.o) _ _ (FlatP.keep s1 s2 _ _ HFLAT.o)
   case measure => simp [intOf]; omega
  ·go_wp2
   go_ret
   obtain rfl : k = ps.length := by omega
   refine ⟨⟨_, rfl, owned_sl hrow (fun b h => hrow.lt b h) fun b hb hc => ?_⟩, hB⟩
   rw [List.take_length] at hflat
   exact FlatP.ptsIn _ _ _ (FlatP.keep (fun _ _ => rfl) (fun b h => ⟨h.1, h.2.1⟩) _ _ hflat) hc
set_option maxHeartbeats 2000000 in
set_option maxRecDepth 100000 in
theorem eachM_any (g : FuncId) (caps : Array Value) (eg : ∀ args w, (callFunc g args).run Tryz.prog w = .ok (.enter g args) w) (f : Tm → Tm) (ps : List Tm) (v : Value) (w : World) (hv : SlV w.heap.size v ps.length fun b o => TmsAt w.heap.size w ps b o) (hl : ps.length ≤ 1000000)
  (hcall : ∀ (k : Nat) (hk : k < ps.length) (v1 : Value) (W : World), Below w.heap.size w W → TmAt W.heap.size W ps[k] v1 → Calls Tryz.prog g (#[v1] ++ caps) W fun e W' => (∃ v2, e = .returned v2 ∧ TmNew W W' (f ps[k]) v2) ∧ Below W.heap.size W W') :
  Calls Tryz.prog 132 #[v, .func (.func g) #[] caps] w fun e w' => (∃ v', e = .returned v' ∧ SlIn (Fresh w w') v' ps.length fun b o => TmsIn (Fresh w w') w' (ps.map f) b o) ∧ Below w.heap.size w w' := by
 obtain ⟨i0, hi, hz0, hz1, hz2⟩ := info_parts Tz.info32
 obtain ⟨a, cap, rfl, hcap, hlc, hka⟩ := hv.split
 clear hv
 unfold maxLen at hcap
 have HKA := lh hka; have HCL := lh hcall; have EG := lh eg; clear hka hcall eg
 go_enter Tryz.func132, Tryz.ntmps132
 go_wp2
 go_loopw [5, 10] (fun vo i wr => ∃ (k : Nat) (xs : List Value), k ≤ ps.length ∧ i = .int .i64 k ∧ wr.ownsRow w.heap.size 32 5 vo k xs ∧ FlatM (Own w wr vo) wr ((ps.take k).map f) xs ∧ Below w.heap.size w wr) (fun _ i _ => ps.length - (intOf i).toNat)
 case atStart => exact ⟨0, [], Nat.zero_le _, rfl, World.ownsRow_nil _ _ _ _, rfl, Below.refl _ _⟩
 case round =>
  obtain ⟨k, xs, hk, rfl, hrow, hflat, hB⟩ := hrel
  by_cases hlt : k < ps.length
  ·obtain ⟨b, o, rfl, hbn, hss⟩ := HKA.o (by omega)
   obtain ⟨c0, c1, c2, c3, c4, g0, g1, g2, g3, g4, ht⟩ := TmsAt.get ps b o hss k hlt
   have q0 := (hB.cell (p := ⟨b, _, none⟩) hbn).trans g0
   have q1 := (hB.cell (p := ⟨b, _, none⟩) hbn).trans g1
   have q2 := (hB.cell (p := ⟨b, _, none⟩) hbn).trans g2
   have q3 := (hB.cell (p := ⟨b, _, none⟩) hbn).trans g3
   have q4 := (hB.cell (p := ⟨b, _, none⟩) hbn).trans g4
   clear g0 g1 g2 g3 g4
   obtain ⟨oo, nn, tt, ka, kn, kc, pa, pn, pc, rfl, rfl, rfl, rfl, rfl⟩ := ht.shape
   have hBa : Below w.heap.size w (wr.alloc (.cells #[.int .i64 oo, .int .i64 nn, .string tt, .slice ka kn kc, .slice pa pn pc] 32)) := hB.trans ((Below.refl _ wr).alloc hB.size _)
   have hcl := HCL.o k hlt _ (wr.alloc (.cells #[.int .i64 oo, .int .i64 nn, .string tt, .slice ka kn kc, .slice pa pn pc] 32)) hBa (TmAt.keep hBa (by have := hB.size; simp; omega) _ _ ht)
   have HC := lh hcl; have HB := lh hB; have HROW := lh hrow; have HFLAT := lh hflat
   have eg := EG.o
   clear hcl hB hrow hflat hBa
   go_wp2_with fail
   refine HC.o.mono ?_
   rintro e w1 ⟨⟨v2, rfl, hnew⟩, hb1⟩
   have hsz := HB.o.size
   have hb1' : Below wr.heap.size wr w1 := ((Below.refl _ wr).alloc (Nat.le_refl _) _).trans (hb1.mono (by simp))
   have hsz1 := hb1'.size
   have hb1s := hb1.size
   simp at hb1s
   obtain ⟨o2, n2, t2, ka2, kn2, kc2, pa2, pn2, pc2, rfl⟩ := TmIn.shape hnew
   have hown1 : ∀ kk, u5.ownBlock = some kk → w.heap.size ≤ kk ∧ kk < wr.heap.size := fun kk h => HROW.o.lt kk h
   have hrow1 : w1.ownsRow w.heap.size 32 5 u5 k xs := HROW.o.kept (row := none) ⟨hb1'.os, hb1'.tape, hb1'.output, hb1'.size, fun i hi _ => hb1'.block i hi⟩ (by cases u5.ownBlock <;> simp)
   have hrow2 := hrow1.alloc (.cells #[.int .i64 o2, .int .i64 n2, .string t2, .slice ka2 kn2 kc2, .slice pa2 pn2 pc2] 32)
   have HNEW := lh hnew; have HB1 := lh hb1; have HB1' := lh hb1'; have HR2 := lh hrow2; have HO1 := lh hown1
   have hnews := cells_new w1 [.int .i64 o2, .int .i64 n2, .string t2, .slice ka2 kn2 kc2, .slice pa2 pn2 pc2] 32
   have HNW := lh hnews
   have hone : ∀ u ∈ [Value.int .i64 o2, .int .i64 n2, .string t2, .slice ka2 kn2 kc2, .slice pa2 pn2 pc2], u.oneCell' = true := by intro u hu; simp at hu; rcases hu with rfl | rfl | rfl | rfl | rfl <;> rfl
   have HONE := lh hone
   clear hnew hb1 hb1' hrow1 hrow2 hown1 hnews hone
   go_wp2_with (at_builtin; refine wpList_append_own_at _ rfl _ _ 29 rfl w.heap.size 32 i0 _ 5 80 Tryz.underlying29 hi hz0 hz1 hz2 rfl (by decide) u5 k xs rfl HR2.o ⟨w1.heap.size, 0, none⟩ 1 1 [.int .i64 o2, .int .i64 n2, .string t2, .slice ka2 kn2 kc2, .slice pa2 pn2 pc2] rfl rfl HNW.o HONE.o (by unfold maxLen; omega) (by omega) (by simp; omega) ?_; intro v' w' hown' hgr hnil hat; have HOWN := lh hown'; have HGR := lh hgr; have HAT := lh hat; clear hown' hgr hnil hat)
   go_roundw
   case rel =>
    obtain ⟨s1, s2, s3, s4⟩ := own_step HB.o HB1'.o HO1.o HGR.o HAT.o
    refine ⟨k + 1, _, by omega, by go_num, HOWN.o, ?_, s4⟩
    rw [List.take_succ_eq_append_getElem hlt, List.map_append, List.map_cons, List.map_nil]
    exact FlatM.snoc (TmIn.keep (fun b h => (s3 b (by have := h.1; simp at this; omega) h.2).1) (fun b h => (s3 b (by have := h.1; simp at this; omega) h.2).2) _ _ HNEW.o) _ _ (FlatM.keep s1 s2 _ _ HFLAT.o)
   case measure => simp [intOf]; omega
  ·go_wp2
   go_ret
   obtain rfl : k = ps.length := by omega
   refine ⟨⟨_, rfl, owned_sl hrow (fun b h => hrow.lt b h) fun b hb hc => ?_⟩, hB⟩
   rw [List.take_length] at hflat
   exact FlatM.tmsIn _ _ _ (FlatM.keep (fun _ _ => rfl) (fun b h => ⟨h.1, h.2.1⟩) _ _ hflat) hc
set_option maxHeartbeats 2000000 in
theorem copyOfPat_any (p : Pt) : ∀ (v : Value) (W : World), PtAt W.heap.size W p v → lensP p →
  Calls Tryz.prog 134 #[v] W fun e W' => (∃ v2, e = .returned v2 ∧ PtNew W W' p v2) ∧ Below W.heap.size W W' := by
 induction hT : SizeOf.sizeOf p using Nat.strongRecOn generalizing p with
 | _ m ih =>
 subst hT
 intro v W hv hlen
 have HIH := lh ih; clear ih
 cases p with
 | mk op n text parts =>
 have hv0 := hv
 unfold PtAt at hv
 obtain ⟨kv, rfl, htx, hk⟩ := hv
 obtain ⟨a, cap, rfl, -⟩ := hk.split
 have hb2 : Below W.heap.size W ((W.alloc (.cells #[.int .i64 op, .int .i64 n, .string text, .slice a parts.length cap] 35)).alloc (.cells #[.int .i64 0, .int .i64 0, .string ⟨#[]⟩, .slice none 0 0] 35)) := ((Below.refl _ W).alloc (Nat.le_refl _) _).alloc (by simp) _
 unfold lensP at hlen
 have he := eachP_any 134 #[] (enters_of Tryz.func134 (by kernel_rfl) rfl) id parts (.slice a parts.length cap) _ (hk.mono (n₁ := ((W.alloc (.cells #[.int .i64 op, .int .i64 n, .string text, .slice a parts.length cap] 35)).alloc (.cells #[.int .i64 0, .int .i64 0, .string ⟨#[]⟩, .slice none 0 0] 35)).heap.size) (by simp; omega) fun b o hlt hr => PtsAt.keep hb2 (by simp; omega) _ b o hlt hr) hlen.1
  (fun k hk v1 W1 hb1 hv1 => HIH.o _ (kid_ltP k hk) parts[k] rfl v1 W1 hv1 (lensP_get hlen.2 k hk))
 have HE := lh he; clear he hk hv0
 go_enter Tryz.func134, Tryz.ntmps134
 go_wp2_with fail
 refine HE.o.mono ?_
 rintro e w1 ⟨⟨v2, rfl, hsl⟩, hb1⟩
 obtain ⟨a2, cap2, rfl⟩ := hsl.split
 have x1 := bget' hb1 ((Below.heap_alloc _ (.cells #[.int .i64 0, .int .i64 0, .string ⟨#[]⟩, .slice none 0 0] 35) _ (by simp)).trans (heap_alloc_new W (.cells #[.int .i64 op, .int .i64 n, .string text, .slice a parts.length cap] 35)))
 have x2 := bget' hb1 (heap_alloc_new (W.alloc (.cells #[.int .i64 op, .int .i64 n, .string text, .slice a parts.length cap] 35)) (.cells #[.int .i64 0, .int .i64 0, .string ⟨#[]⟩, .slice none 0 0] 35))
 rw [World.size_alloc] at x2
 obtain ⟨y0, y1, y2, y3⟩ := cells4 x1
 obtain ⟨z0, z1, z2, z3⟩ := cells4 x2
 have f1 := free_box x1
 have f2 := free_box x2
 have X1 := lh x1; have X2 := lh x2; have HSL := lh hsl; have HB1 := lh hb1
 clear x1 x2 hsl hb1 HE
 go_wp2
 have hkp : Kept (fun k => k = W.heap.size ∨ k = W.heap.size + 1) w1 (((((w1.setCell ⟨W.heap.size, 3, none⟩ (.slice a2 parts.length cap2)).setCell ⟨W.heap.size + 1, 0, none⟩ (.int .i64 op)).setCell ⟨W.heap.size + 1, 1, none⟩ (.int .i64 n)).setCell ⟨W.heap.size + 1, 2, none⟩ (.string text)).setCell ⟨W.heap.size + 1, 3, none⟩ (.slice a2 parts.length cap2)) :=
  ((((Kept.setCell _ (.inl rfl) _).trans (.setCell _ (.inr rfl) _)).trans (.setCell _ (.inr rfl) _)).trans (.setCell _ (.inr rfl) _)).trans (.setCell _ (.inr rfl) _)
 have hs1 := HB1.o.size
 have hs2 := hkp.size
 simp at hs1
 refine bodyPost_ret (v := .agg #[.int .i64 op, .int .i64 n, .string text, .slice a2 parts.length cap2]) (by simp [results, Tryz.results134, go_sem, z0, z1, z2, z3]) rfl ⟨⟨_, rfl, ?_⟩, (hb2.trans (HB1.o.mono (by simp; omega))).trans (hkp.below (by omega) (by rintro k (rfl | rfl) <;> omega))⟩
 unfold PtNew PtIn
 have hkeep : ∀ b, Fresh ((W.alloc (.cells #[.int .i64 op, .int .i64 n, .string text, .slice a parts.length cap] 35)).alloc (.cells #[.int .i64 0, .int .i64 0, .string ⟨#[]⟩, .slice none 0 0] 35)) w1 b → W.heap.size + 2 ≤ b ∧ b < w1.heap.size := fun b h => ⟨by have := h.1; simpa using this, h.2⟩
 refine ⟨_, rfl, htx, ?_⟩
 have := HSL.o
 rw [List.map_id] at this
 exact this.mono (fun b h => ⟨by have := (hkeep b h).1; omega, by have := (hkeep b h).2; omega⟩) fun b o h hr =>
  PtsIn.keep (fun b h => hkp.block b (hkeep b h).2 (by have := (hkeep b h).1; omega)) (fun b h => ⟨by have := (hkeep b h).1; omega, by have := (hkeep b h).2; omega⟩) _ _ _ h hr
mutual
def lensM : Tm → Prop | .mk _ _ _ kids pats => kids.length ≤ 1000000 ∧ pats.length ≤ 1000000 ∧ lenssP pats ∧ lenssM kids
def lenssM : List Tm → Prop | [] => True | p :: ps => lensM p ∧ lenssM ps
end
theorem lensM_get : ∀ {ps : List Tm}, lenssM ps → ∀ (k : Nat) (h : k < ps.length), lensM ps[k]
 | p :: ps, h, 0, _ => by unfold lenssM at h; exact h.1
 | p :: ps, h, k + 1, hk => by unfold lenssM at h; exact lensM_get h.2 k (by simpa using hk)
set_option maxHeartbeats 4000000 in
theorem copyOf_any (p : Tm) : ∀ (v : Value) (W : World), TmAt W.heap.size W p v → lensM p →
  Calls Tryz.prog 102 #[v] W fun e W' => (∃ v2, e = .returned v2 ∧ TmNew W W' p v2) ∧ Below W.heap.size W W' := by
 induction hT : SizeOf.sizeOf p using Nat.strongRecOn generalizing p with
 | _ m ih =>
 subst hT
 intro v W hv hlen
 have HIH := lh ih; clear ih
 cases p with
 | mk op n text kids pats =>
 unfold TmAt at hv
 obtain ⟨kv, pv, rfl, htx, hk, hp⟩ := hv
 obtain ⟨a, cap, rfl, -⟩ := hk.split
 obtain ⟨a', cap', rfl, -⟩ := hp.split
 have hb2 : Below W.heap.size W ((W.alloc (.cells #[.int .i64 op, .int .i64 n, .string text, .slice a kids.length cap, .slice a' pats.length cap'] 32)).alloc (.cells #[.int .i64 0, .int .i64 0, .string ⟨#[]⟩, .slice none 0 0, .slice none 0 0] 32)) := ((Below.refl _ W).alloc (Nat.le_refl _) _).alloc (by simp) _
 unfold lensM at hlen
 have he := eachM_any 102 #[] (enters_of Tryz.func102 (by kernel_rfl) rfl) id kids (.slice a kids.length cap) _ (hk.mono (n₁ := ((W.alloc (.cells #[.int .i64 op, .int .i64 n, .string text, .slice a kids.length cap, .slice a' pats.length cap'] 32)).alloc (.cells #[.int .i64 0, .int .i64 0, .string ⟨#[]⟩, .slice none 0 0, .slice none 0 0] 32)).heap.size) (by simp; omega) fun b o hlt hr => TmsAt.keep hb2 (by simp; omega) _ b o hlt hr) hlen.1
  (fun k hk v1 W1 hb1 hv1 => HIH.o _ (kid_lt k hk) kids[k] rfl v1 W1 hv1 (lensM_get hlen.2.2.2 k hk))
 have HE := lh he; have HP := lh hp; clear he hk hp
 go_enter Tryz.func102, Tryz.ntmps102
 go_wp2_with fail
 refine HE.o.mono ?_
 rintro e w1 ⟨⟨v2, rfl, hsl⟩, hb1⟩
 obtain ⟨a2, cap2, rfl⟩ := hsl.split
 have x1 := bget' hb1 ((Below.heap_alloc _ (.cells #[.int .i64 0, .int .i64 0, .string ⟨#[]⟩, .slice none 0 0, .slice none 0 0] 32) _ (by simp)).trans (heap_alloc_new W (.cells #[.int .i64 op, .int .i64 n, .string text, .slice a kids.length cap, .slice a' pats.length cap'] 32)))
 have x2 := bget' hb1 (heap_alloc_new (W.alloc (.cells #[.int .i64 op, .int .i64 n, .string text, .slice a kids.length cap, .slice a' pats.length cap'] 32)) (.cells #[.int .i64 0, .int .i64 0, .string ⟨#[]⟩, .slice none 0 0, .slice none 0 0] 32))
 rw [World.size_alloc] at x2
 obtain ⟨y0, y1, y2, y3, y4⟩ := cells5 x1
 have f1 := free_box x1
 have hs1 := hb1.size
 simp at hs1
 -- behind the first store
 have k1 : Kept (fun k => k = W.heap.size) w1 (w1.setCell ⟨W.heap.size, 3, none⟩ (.slice a2 kids.length cap2)) := .setCell (S := fun k => k = W.heap.size) _ rfl _
 have hx1 : (w1.setCell ⟨W.heap.size, 3, none⟩ (.slice a2 kids.length cap2)).heap[W.heap.size]? = some (.cells #[.int .i64 op, .int .i64 n, .string text, .slice a2 kids.length cap2, .slice a' pats.length cap'] 32 (0, 0)) := box_setCell x1 3 _
 have hx2 := k1.get x2 (by omega)
 have hbW : Below W.heap.size W (w1.setCell ⟨W.heap.size, 3, none⟩ (.slice a2 kids.length cap2)) := (hb2.trans (hb1.mono (by simp; omega))).trans (k1.below (by omega) (by rintro k rfl; omega))
 have hep := eachP_any 134 #[] (enters_of Tryz.func134 (by kernel_rfl) rfl) id pats (.slice a' pats.length cap') (w1.setCell ⟨W.heap.size, 3, none⟩ (.slice a2 kids.length cap2)) (HP.o.mono (n₁ := (w1.setCell ⟨W.heap.size, 3, none⟩ (.slice a2 kids.length cap2)).heap.size) hbW.size fun b o hlt hr => PtsAt.keep hbW hbW.size _ b o hlt hr) hlen.2.1
  (fun k hk v1 W1 hb1 hv1 => copyOfPat_any pats[k] v1 W1 hv1 (lensP_get hlen.2.2.1 k hk))
 have HEP := lh hep
 have HSL := lh hsl; have HX1 := lh hx1; have HX2 := lh hx2; have HBW := lh hbW; have HK1 := lh k1; have HB1 := lh hb1
 clear hep x1 x2 hsl HE hx1 hx2 hbW k1 hb1
 go_wp2_with fail
 refine HEP.o.mono ?_
 rintro e w2 ⟨⟨v3, rfl, hsp⟩, hb2'⟩
 obtain ⟨a3, cap3, rfl⟩ := hsp.split
 have hx1 := bget' hb2' HX1.o
 have hx2 := bget' hb2' HX2.o
 have hsW := HBW.o.size
 have hsw2 := hb2'.size
 have hswk := HK1.o.size
 clear y0 y1 y2 y3 y4 f1
 obtain ⟨y0, y1, y2, y3, y4⟩ := cells5 hx1
 obtain ⟨z0, z1, z2, z3, z4⟩ := cells5 hx2
 have f1 := free_box hx1
 have f2 := free_box hx2
 have HSP := lh hsp; have HB2 := lh hb2'
 clear hsp hb2' hx1 hx2 HEP
 go_wp2
 have hkp : Kept (fun k => k = W.heap.size ∨ k = W.heap.size + 1) w2 ((((((w2.setCell ⟨W.heap.size, 4, none⟩ (.slice a3 pats.length cap3)).setCell ⟨W.heap.size + 1, 0, none⟩ (.int .i64 op)).setCell ⟨W.heap.size + 1, 1, none⟩ (.int .i64 n)).setCell ⟨W.heap.size + 1, 2, none⟩ (.string text)).setCell ⟨W.heap.size + 1, 3, none⟩ (.slice a2 kids.length cap2)).setCell ⟨W.heap.size + 1, 4, none⟩ (.slice a3 pats.length cap3)) :=
  (((((Kept.setCell _ (.inl rfl) _).trans (.setCell _ (.inr rfl) _)).trans (.setCell _ (.inr rfl) _)).trans (.setCell _ (.inr rfl) _)).trans (.setCell _ (.inr rfl) _)).trans (.setCell _ (.inr rfl) _)
 have hs2 := hkp.size
 refine bodyPost_ret (v := .agg #[.int .i64 op, .int .i64 n, .string text, .slice a2 kids.length cap2, .slice a3 pats.length cap3]) (by simp [results, Tryz.results102, go_sem, z0, z1, z2, z3, z4]) rfl ⟨⟨_, rfl, ?_⟩, (HBW.o.trans (HB2.o.mono hsW)).trans (hkp.below (by omega) (by rintro k (rfl | rfl) <;> omega))⟩
 unfold TmNew TmIn
 have hk1 : ∀ b, Fresh ((W.alloc (.cells #[.int .i64 op, .int .i64 n, .string text, .slice a kids.length cap, .slice a' pats.length cap'] 32)).alloc (.cells #[.int .i64 0, .int .i64 0, .string ⟨#[]⟩, .slice none 0 0, .slice none 0 0] 32)) w1 b → W.heap.size + 2 ≤ b ∧ b < w1.heap.size := fun b h => ⟨by have := h.1; simpa using this, h.2⟩
 have hk2 : ∀ b, Fresh (w1.setCell ⟨W.heap.size, 3, none⟩ (.slice a2 kids.length cap2)) w2 b → W.heap.size + 2 ≤ b ∧ b < w2.heap.size := fun b h => ⟨by have := h.1; omega, h.2⟩
 have e1 := HSL.o
 have e2 := HSP.o
 rw [List.map_id] at e1 e2
 refine ⟨_, _, rfl, htx, ?_, ?_⟩
 ·exact e1.mono (fun b h => ⟨by have := (hk1 b h).1; omega, by have := (hk1 b h).2; omega⟩) fun b o h hr =>
   TmsIn.keep (fun b h => (hkp.block b (by have := (hk1 b h).2; omega) (by have := (hk1 b h).1; omega)).trans ((HB2.o.block b (by have := (hk1 b h).2; omega)).trans (HK1.o.block b (hk1 b h).2 (by have := (hk1 b h).1; omega)))) (fun b h => ⟨by have := (hk1 b h).1; omega, by have := (hk1 b h).2; omega⟩) _ _ _ h hr
 ·exact e2.mono (fun b h => ⟨by have := (hk2 b h).1; omega, by have := (hk2 b h).2; omega⟩) fun b o h hr =>
   PtsIn.keep (fun b h => hkp.block b (hk2 b h).2 (by have := (hk2 b h).1; omega)) (fun b h => ⟨by have := (hk2 b h).1; omega, by have := (hk2 b h).2; omega⟩) _ _ _ h hr
end Go.Proofs.YtjpahjfjpkbcnaaGreat
