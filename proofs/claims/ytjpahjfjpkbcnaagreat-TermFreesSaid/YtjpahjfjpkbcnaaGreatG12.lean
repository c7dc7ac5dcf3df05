/- Contracts of the program's functions. -/
import Derived.Test.YtjpahjfjpkbcnaaGreatG04
import Derived.Test.YtjpahjfjpkbcnaaGreatG07
import Derived.Test.YtjpahjfjpkbcnaaGreatG09
import Derived.Test.YtjpahjfjpkbcnaaGreatG11
import Derived.Test.YtjpahjfjpkbcnaaGreatG03
import Derived.Sort.Walk0

/- put: a string put into a sorted list: its region 6. -/
namespace Go.Proofs.YtjpahjfjpkbcnaaGreat
open Go.Proofs Go.RowKit
attribute [local go_sem] eval_put_same eval_put_ne size_put

def ops107 : Array Oper := #[{ dst := some 33, op := Op.move (Operand.tmp 0), type := 22, pos := "ref.go:356", after := #[], guard := none }, { dst := some 34, op := Op.move (Operand.tmp 5), type := 3, pos := "ref.go:356", after := #[], guard := none }, { dst := some 35, op := Op.slice 22 (Operand.tmp 33) none (some (Operand.tmp 34)) none, type := 22, pos := "ref.go:356", after := #[{ on := 0, ground := Ground.data }, { on := 1, ground := Ground.data }], guard := none }, { dst := some 36, op := Op.call { callee := Callee.builtin Builtin.append, args := #[Operand.const (Value.slice none 0 0), Operand.tmp 35], argTypes := #[22, 22] }, type := 22, pos := "ref.go:356", after := #[{ on := 2, ground := Ground.data }], guard := none }, { dst := some 37, op := Op.move (Operand.tmp 1), type := 9, pos := "ref.go:356", after := #[], guard := none }, { dst := some 38, op := Op.buildSlice 22 1 #[(0, Operand.tmp 37)], type := 22, pos := "ref.go:356", after := #[{ on := 4, ground := Ground.data }], guard := none }, { dst := some 39, op := Op.call { callee := Callee.builtin Builtin.append, args := #[Operand.tmp 36, Operand.tmp 38], argTypes := #[22, 22] }, type := 22, pos := "ref.go:356", after := #[{ on := 3, ground := Ground.data }, { on := 5, ground := Ground.data }, { on := 3, ground := Ground.chain }], guard := none }, { dst := some 40, op := Op.move (Operand.tmp 0), type := 22, pos := "ref.go:356", after := #[], guard := none }, { dst := some 41, op := Op.move (Operand.tmp 5), type := 3, pos := "ref.go:356", after := #[], guard := none }, { dst := some 42, op := Op.slice 22 (Operand.tmp 40) (some (Operand.tmp 41)) none none, type := 22, pos := "ref.go:356", after := #[{ on := 7, ground := Ground.data }, { on := 8, ground := Ground.data }], guard := none }, { dst := some 43, op := Op.call { callee := Callee.builtin Builtin.append, args := #[Operand.tmp 39, Operand.tmp 42], argTypes := #[22, 22] }, type := 22, pos := "ref.go:356", after := #[{ on := 6, ground := Ground.data }, { on := 9, ground := Ground.data }, { on := 6, ground := Ground.chain }], guard := none }, { dst := some 4, op := Op.assign (Operand.tmp 43), type := 22, pos := "ref.go:356", after := #[{ on := 10, ground := Ground.data }, { on := 10, ground := Ground.chain }, { on := 0, ground := Ground.phase }, { on := 1, ground := Ground.phase }, { on := 2, ground := Ground.phase }, { on := 3, ground := Ground.phase }, { on := 4, ground := Ground.phase }, { on := 5, ground := Ground.phase }, { on := 6, ground := Ground.phase }, { on := 7, ground := Ground.phase }, { on := 8, ground := Ground.phase }, { on := 9, ground := Ground.phase }, { on := 10, ground := Ground.phase }], guard := none }]

set_option maxHeartbeats 4000000 in
set_option maxRecDepth 100000 in
theorem reg107 {Q : Exit → Act → World → Prop} {a : Act} {U : World} {k : Nat} {s : ByteArray} {l : List ByteArray} {b o cap : Nat} {ad : Addr}
    (hsz : a.tmps.size = 44) (h0 : a.tmps[0]'(by omega) = (.slice (some ⟨b, o, none⟩) l.length cap)) (h1 : a.tmps[1]'(by omega) = .string s) (h5 : a.tmps[5]'(by omega) = .int .i64 k)
    (hQ : ∀ c (d : Nat) v (a : Act) w, Q (.panic c) (a.put (some d) v) w → Q (.panic c) a w)
    (hs1 : ∀ w', Below U.heap.size U w' → AppSrc w' 1 (.slice (some ⟨b, o, none⟩) k cap) k ((l.take k).map Value.string)) (hs2 : ∀ w', Below U.heap.size U w' → AppSrc w' 1 (.slice (some ad) (l.length - k) (cap - k)) (l.length - k) ((l.drop k).map Value.string)) (hn : l.length ≤ 1000000) (hk : k ≤ l.length) (hkc : k ≤ cap) (had : (if cap = k then some (⟨b, o, none⟩ : Addr) else some ⟨b, o + k, none⟩) = some ad)
    (hK : ∀ (a' : Act) (w' : World) (v : Value), a'.tmps.size = 44 → a'.defers = a.defers → a'.tmps[4]? = some v → w'.ownsRow U.heap.size 9 1 v (l.length + 1) ((l.take k ++ s :: l.drop k).map Value.string) → Below U.heap.size U w' → Q .normal a' w') :
    (Code.region 6 ops107 true).wp Tryz.prog Q a U := by
  obtain ⟨i0, hi, hz0, hz1, hz2⟩ := info_parts Tz.info9
  have HK := Lib.hid hK; have HS1 := Lib.hid hs1; have HS2 := Lib.hid hs2
  clear hK hs1 hs2
  refine wp_region_z (fun w' => Below U.heap.size U w') 11 (by kernel_rfl) ?_
  refine wpAnyZ_take 0 (oi := { dst := some 33, op := Op.move (Operand.tmp 0), type := 22, pos := "ref.go:356", after := #[], guard := none }) (below_drew _ _) rfl (by kernel_rfl) (by kernel_rfl) (by kernel_rfl) (fun c a w h => hQ c _ _ a w h) (by kernel_rfl) rfl (by rfl) (by intro w' hSw; go_simp <;> rfl) ?_
  refine wpAnyZ_take 1 (oi := { dst := some 34, op := Op.move (Operand.tmp 5), type := 3, pos := "ref.go:356", after := #[], guard := none }) (below_drew _ _) rfl (by kernel_rfl) (by kernel_rfl) (by kernel_rfl) (fun c a w h => hQ c _ _ a w h) (by kernel_rfl) rfl (by rfl) (by intro w' hSw; go_simp <;> rfl) ?_
  refine wpAnyZ_take 2 (oi := { dst := some 35, op := Op.slice 22 (Operand.tmp 33) none (some (Operand.tmp 34)) none, type := 22, pos := "ref.go:356", after := #[{ on := 0, ground := Ground.data }, { on := 1, ground := Ground.data }], guard := none }) (below_drew _ _) rfl (by kernel_rfl) (by kernel_rfl) (by kernel_rfl) (fun c a w h => hQ c _ _ a w h) (by kernel_rfl) rfl (by rfl) (by intro w' hSw; go_simp <;> rfl) ?_
  refine wpAnyZ_take 4 (oi := { dst := some 37, op := Op.move (Operand.tmp 1), type := 9, pos := "ref.go:356", after := #[], guard := none }) (below_drew _ _) rfl (by kernel_rfl) (by kernel_rfl) (by kernel_rfl) (fun c a w h => hQ c _ _ a w h) (by kernel_rfl) rfl (by rfl) (by intro w' hSw; go_simp <;> rfl) ?_
  refine wpAnyZ_take 7 (oi := { dst := some 40, op := Op.move (Operand.tmp 0), type := 22, pos := "ref.go:356", after := #[], guard := none }) (below_drew _ _) rfl (by kernel_rfl) (by kernel_rfl) (by kernel_rfl) (fun c a w h => hQ c _ _ a w h) (by kernel_rfl) rfl (by rfl) (by intro w' hSw; go_simp <;> rfl) ?_
  refine wpAnyZ_take 8 (oi := { dst := some 41, op := Op.move (Operand.tmp 5), type := 3, pos := "ref.go:356", after := #[], guard := none }) (below_drew _ _) rfl (by kernel_rfl) (by kernel_rfl) (by kernel_rfl) (fun c a w h => hQ c _ _ a w h) (by kernel_rfl) rfl (by rfl) (by intro w' hSw; go_simp <;> rfl) ?_
  refine wpAnyZ_take 9 (oi := { dst := some 42, op := Op.slice 22 (Operand.tmp 40) (some (Operand.tmp 41)) none none, type := 22, pos := "ref.go:356", after := #[{ on := 7, ground := Ground.data }, { on := 8, ground := Ground.data }], guard := none }) (below_drew _ _) rfl (by kernel_rfl) (by kernel_rfl) (by kernel_rfl) (fun c a w h => hQ c _ _ a w h) (by kernel_rfl) rfl (by rfl) (by intro w' hSw; go_simp <;> rfl) ?_
  refine wpAnyZ_two 3 5 (o := { dst := some 36, op := Op.call { callee := Callee.builtin Builtin.append, args := #[Operand.const (Value.slice none 0 0), Operand.tmp 35], argTypes := #[22, 22] }, type := 22, pos := "ref.go:356", after := #[{ on := 2, ground := Ground.data }], guard := none }) (o' := { dst := some 38, op := Op.buildSlice 22 1 #[(0, Operand.tmp 37)], type := 22, pos := "ref.go:356", after := #[{ on := 4, ground := Ground.data }], guard := none }) (by kernel_rfl) rfl rfl (fun KK hKK => ?_) (fun KK hKK => ?_)
  · refine step_append_any _ (by rfl) _ _ _ (by rfl) U.heap.size 9 i0 _ 1 16 Tz.underlying22 hi hz0 hz1 hz2 rfl (by decide) (.slice none 0 0) 0 [] (by go_simp) (World.ownsRow_nil _ _ _ _) (.slice (some ⟨b, o, none⟩) k cap) k ((l.take k).map Value.string) (by go_simp) (HS1.out _ (below_drew _ _)) (by unfold maxLen; omega) (by omega) (Nat.le_refl _) ?_
    intro v3 w3 hown3 hgr3 hat3
    rw [Nat.zero_add, List.nil_append] at hown3
    have hb3 : Below U.heap.size U w3 := (below_drew _ _).trans (below_of_grown hgr3 (Nat.le_refl _) fun g hg => by cases hg)
    refine hKK.out _ _ (fun _ => hb3) ?_
    clear hKK KK
    refine wpAnyZ_one 5 (o := { dst := some 38, op := Op.buildSlice 22 1 #[(0, Operand.tmp 37)], type := 22, pos := "ref.go:356", after := #[{ on := 4, ground := Ground.data }], guard := none }) (by kernel_rfl) rfl fun KK hKK => ?_
    go_simp
    have hb5 : Below U.heap.size U (w3.alloc (.cells #[.string s] 9)) := hb3.alloc hb3.size _
    have hx5 := heap_alloc_new w3 (.cells #[.string s] 9)
    have hs5 : (w3.alloc (.cells #[.string s] 9)).heap.size = w3.heap.size + 1 := by simp
    have hr5 : (w3.alloc (.cells #[.string s] 9)).ownsRow U.heap.size 9 1 v3 k ((l.take k).map Value.string) := ownsRow_of_block hown3 fun g hg => Below.heap_alloc _ _ _ (hown3.lt g hg).2
    refine hKK.out _ _ (fun _ => hb5) ?_
    clear hKK KK
    generalize (w3.alloc (.cells #[.string s] 9)) = w5 at *
    generalize w3.heap.size = c5 at *
    have hc5 : AppSrc w5 1 (.slice (some ⟨c5, 0, none⟩) 1 1) 1 [Value.string s] := .inr ⟨⟨c5, 0, none⟩, 1, rfl, rfl, fun j u hj => by
      match j, hj with
      | 0, hj => exact (cell_box hx5).trans hj
      | j + 1, hj => simp at hj, fun u hu => by simp at hu; subst hu; rfl⟩
    have HB5 := Lib.hid hb5; have HR3 := Lib.hid hr5; have HC5 := Lib.hid hc5
    have hsz5 := hb5.size
    clear hb3 hown3 hgr3 hat3 hb5 hx5 hs5 hr5 hc5
    refine wpAnyZ_one 6 (o := { dst := some 39, op := Op.call { callee := Callee.builtin Builtin.append, args := #[Operand.tmp 36, Operand.tmp 38], argTypes := #[22, 22] }, type := 22, pos := "ref.go:356", after := #[{ on := 3, ground := Ground.data }, { on := 5, ground := Ground.data }, { on := 3, ground := Ground.chain }], guard := none }) (by kernel_rfl) rfl fun KK hKK => ?_
    refine step_append_any _ (by rfl) _ _ _ (by rfl) U.heap.size 9 i0 _ 1 16 Tz.underlying22 hi hz0 hz1 hz2 rfl (by decide) v3 k ((l.take k).map Value.string) (by go_simp) HR3.out (.slice (some ⟨c5, 0, none⟩) 1 1) 1 [Value.string s] (by go_simp) HC5.out (by unfold maxLen; omega) (by omega) (by omega) ?_
    intro v6 w6 hown6 hgr6 hat6
    have hb6 : Below U.heap.size U w6 := HB5.out.trans (below_of_grown hgr6 HB5.out.size fun g hg => (HR3.out.lt g hg).1)
    have HR6 := Lib.hid hown6; have HB6 := Lib.hid hb6
    have hs6 := hb6.size
    clear hown6 hgr6 hat6 hb6
    refine hKK.out _ _ (fun _ => HB6.out) ?_
    clear hKK KK
    refine wpAnyZ_one 10 (o := { dst := some 43, op := Op.call { callee := Callee.builtin Builtin.append, args := #[Operand.tmp 39, Operand.tmp 42], argTypes := #[22, 22] }, type := 22, pos := "ref.go:356", after := #[{ on := 6, ground := Ground.data }, { on := 9, ground := Ground.data }, { on := 6, ground := Ground.chain }], guard := none }) (by kernel_rfl) rfl fun KK hKK => ?_
    refine step_append_any _ (by rfl) _ _ _ (by rfl) U.heap.size 9 i0 _ 1 16 Tz.underlying22 hi hz0 hz1 hz2 rfl (by decide) v6 (k + 1) ((l.take k).map Value.string ++ [Value.string s]) (by go_simp) HR6.out (.slice (some ad) (l.length - k) (cap - k)) (l.length - k) ((l.drop k).map Value.string) (by go_simp) (HS2.out _ HB6.out) (by unfold maxLen; omega) (by omega) (by omega) ?_
    intro v7 w7 hown7 hgr7 hat7
    have hb7 : Below U.heap.size U w7 := HB6.out.trans (below_of_grown hgr7 HB6.out.size fun g hg => (HR6.out.lt g hg).1)
    have hn7 : k + 1 + (l.length - k) = l.length + 1 := by omega
    have hx7 : (l.take k).map Value.string ++ [Value.string s] ++ (l.drop k).map Value.string = (l.take k ++ s :: l.drop k).map Value.string := by simp
    rw [hn7, hx7] at hown7
    have HR7 := Lib.hid hown7; have HB7 := Lib.hid hb7
    clear hown7 hgr7 hat7 hb7 hn7 hx7
    refine hKK.out _ _ (fun _ => HB7.out) ?_
    clear hKK KK
    refine wpAnyZ_one 11 (o := { dst := some 4, op := Op.assign (Operand.tmp 43), type := 22, pos := "ref.go:356", after := #[{ on := 10, ground := Ground.data }, { on := 10, ground := Ground.chain }, { on := 0, ground := Ground.phase }, { on := 1, ground := Ground.phase }, { on := 2, ground := Ground.phase }, { on := 3, ground := Ground.phase }, { on := 4, ground := Ground.phase }, { on := 5, ground := Ground.phase }, { on := 6, ground := Ground.phase }, { on := 7, ground := Ground.phase }, { on := 8, ground := Ground.phase }, { on := 9, ground := Ground.phase }, { on := 10, ground := Ground.phase }], guard := none }) (by kernel_rfl) rfl fun KK hKK => ?_
    go_simp
    refine hKK.out _ _ (fun h => absurd rfl h) ?_
    refine wpAnyZ_done (by kernel_rfl) ?_ _
    exact HK.out _ _ v7 (by simp [hsz]) rfl (by simp [hsz]) HR7.out HB7.out
  · go_simp
    have hb5 : Below U.heap.size U (U.alloc (.cells #[.string s] 9)).drew := ((Below.refl _ _).alloc (Nat.le_refl _) _).trans (below_drew _ _)
    have hx5 : (U.alloc (.cells #[.string s] 9)).drew.heap[U.heap.size]? = _ := heap_alloc_new U (.cells #[.string s] 9)
    have hs5 : (U.alloc (.cells #[.string s] 9)).drew.heap.size = U.heap.size + 1 := by simp [World.drew]
    refine hKK.out _ _ (fun _ => hb5) ?_
    clear hKK KK
    generalize (U.alloc (.cells #[.string s] 9)).drew = w5 at *
    refine wpAnyZ_one 3 (o := { dst := some 36, op := Op.call { callee := Callee.builtin Builtin.append, args := #[Operand.const (Value.slice none 0 0), Operand.tmp 35], argTypes := #[22, 22] }, type := 22, pos := "ref.go:356", after := #[{ on := 2, ground := Ground.data }], guard := none }) (by kernel_rfl) rfl fun KK hKK => ?_
    refine step_append_any _ (by rfl) _ _ _ (by rfl) U.heap.size 9 i0 _ 1 16 Tz.underlying22 hi hz0 hz1 hz2 rfl (by decide) (.slice none 0 0) 0 [] (by go_simp) (World.ownsRow_nil _ _ _ _) (.slice (some ⟨b, o, none⟩) k cap) k ((l.take k).map Value.string) (by go_simp) (HS1.out _ hb5) (by unfold maxLen; omega) (by omega) (by omega) ?_
    intro v3 w3 hown3 hgr3 hat3
    rw [Nat.zero_add, List.nil_append] at hown3
    have hb3 : Below U.heap.size U w3 := hb5.trans (below_of_grown hgr3 (by omega) fun g hg => by cases hg)
    have hx3 := (hgr3.block _ (by omega) (fun e => by cases e)).trans hx5
    refine hKK.out _ _ (fun _ => hb3) ?_
    clear hKK KK
    generalize hc5' : U.heap.size = c5 at hx3 ⊢
    have hc5 : AppSrc w3 1 (.slice (some ⟨c5, 0, none⟩) 1 1) 1 [Value.string s] := .inr ⟨⟨c5, 0, none⟩, 1, rfl, rfl, fun j u hj => by
      match j, hj with
      | 0, hj => exact (cell_box hx3).trans hj
      | j + 1, hj => simp at hj, fun u hu => by simp at hu; subst hu; rfl⟩
    have HB5 := Lib.hid hb3; have HR3 := Lib.hid hown3; have HC5 := Lib.hid hc5
    have hsz5 := hb3.size
    clear hb3 hown3 hgr3 hat3 hb5 hx5 hs5 hx3 hc5
    rw [← hc5']
    rw [← hc5'] at HC5
    clear hc5'
    refine wpAnyZ_one 6 (o := { dst := some 39, op := Op.call { callee := Callee.builtin Builtin.append, args := #[Operand.tmp 36, Operand.tmp 38], argTypes := #[22, 22] }, type := 22, pos := "ref.go:356", after := #[{ on := 3, ground := Ground.data }, { on := 5, ground := Ground.data }, { on := 3, ground := Ground.chain }], guard := none }) (by kernel_rfl) rfl fun KK hKK => ?_
    refine step_append_any _ (by rfl) _ _ _ (by rfl) U.heap.size 9 i0 _ 1 16 Tz.underlying22 hi hz0 hz1 hz2 rfl (by decide) v3 k ((l.take k).map Value.string) (by go_simp) HR3.out (.slice (some ⟨U.heap.size, 0, none⟩) 1 1) 1 [Value.string s] (by go_simp) HC5.out (by unfold maxLen; omega) (by omega) (by omega) ?_
    intro v6 w6 hown6 hgr6 hat6
    have hb6 : Below U.heap.size U w6 := HB5.out.trans (below_of_grown hgr6 HB5.out.size fun g hg => (HR3.out.lt g hg).1)
    have HR6 := Lib.hid hown6; have HB6 := Lib.hid hb6
    have hs6 := hb6.size
    clear hown6 hgr6 hat6 hb6
    refine hKK.out _ _ (fun _ => HB6.out) ?_
    clear hKK KK
    refine wpAnyZ_one 10 (o := { dst := some 43, op := Op.call { callee := Callee.builtin Builtin.append, args := #[Operand.tmp 39, Operand.tmp 42], argTypes := #[22, 22] }, type := 22, pos := "ref.go:356", after := #[{ on := 6, ground := Ground.data }, { on := 9, ground := Ground.data }, { on := 6, ground := Ground.chain }], guard := none }) (by kernel_rfl) rfl fun KK hKK => ?_
    refine step_append_any _ (by rfl) _ _ _ (by rfl) U.heap.size 9 i0 _ 1 16 Tz.underlying22 hi hz0 hz1 hz2 rfl (by decide) v6 (k + 1) ((l.take k).map Value.string ++ [Value.string s]) (by go_simp) HR6.out (.slice (some ad) (l.length - k) (cap - k)) (l.length - k) ((l.drop k).map Value.string) (by go_simp) (HS2.out _ HB6.out) (by unfold maxLen; omega) (by omega) (by omega) ?_
    intro v7 w7 hown7 hgr7 hat7
    have hb7 : Below U.heap.size U w7 := HB6.out.trans (below_of_grown hgr7 HB6.out.size fun g hg => (HR6.out.lt g hg).1)
    have hn7 : k + 1 + (l.length - k) = l.length + 1 := by omega
    have hx7 : (l.take k).map Value.string ++ [Value.string s] ++ (l.drop k).map Value.string = (l.take k ++ s :: l.drop k).map Value.string := by simp
    rw [hn7, hx7] at hown7
    have HR7 := Lib.hid hown7; have HB7 := Lib.hid hb7
    clear hown7 hgr7 hat7 hb7 hn7 hx7
    refine hKK.out _ _ (fun _ => HB7.out) ?_
    clear hKK KK
    refine wpAnyZ_one 11 (o := { dst := some 4, op := Op.assign (Operand.tmp 43), type := 22, pos := "ref.go:356", after := #[{ on := 10, ground := Ground.data }, { on := 10, ground := Ground.chain }, { on := 0, ground := Ground.phase }, { on := 1, ground := Ground.phase }, { on := 2, ground := Ground.phase }, { on := 3, ground := Ground.phase }, { on := 4, ground := Ground.phase }, { on := 5, ground := Ground.phase }, { on := 6, ground := Ground.phase }, { on := 7, ground := Ground.phase }, { on := 8, ground := Ground.phase }, { on := 9, ground := Ground.phase }, { on := 10, ground := Ground.phase }], guard := none }) (by kernel_rfl) rfl fun KK hKK => ?_
    go_simp
    refine hKK.out _ _ (fun h => absurd rfl h) ?_
    refine wpAnyZ_done (by kernel_rfl) ?_ _
    exact HK.out _ _ v7 (by simp [hsz]) rfl (by simp [hsz]) HR7.out HB7.out

set_option maxHeartbeats 4000000 in
set_option maxRecDepth 100000 in
theorem reg107n {Q : Exit → Act → World → Prop} {a : Act} {U : World} {k : Nat} {s : ByteArray} {l : List ByteArray}
    (hsz : a.tmps.size = 44) (h0 : a.tmps[0]'(by omega) = (.slice none 0 0)) (h1 : a.tmps[1]'(by omega) = .string s) (h5 : a.tmps[5]'(by omega) = .int .i64 k)
    (hQ : ∀ c (d : Nat) v (a : Act) w, Q (.panic c) (a.put (some d) v) w → Q (.panic c) a w)
    (hs1 : ∀ w', Below U.heap.size U w' → AppSrc w' 1 (.slice none 0 0) k ((l.take k).map Value.string)) (hs2 : ∀ w', Below U.heap.size U w' → AppSrc w' 1 (.slice none 0 0) (l.length - k) ((l.drop k).map Value.string)) (hn : l.length ≤ 1000000) (hk : k ≤ l.length) (hk0 : k = 0)
    (hK : ∀ (a' : Act) (w' : World) (v : Value), a'.tmps.size = 44 → a'.defers = a.defers → a'.tmps[4]? = some v → w'.ownsRow U.heap.size 9 1 v (l.length + 1) ((l.take k ++ s :: l.drop k).map Value.string) → Below U.heap.size U w' → Q .normal a' w') :
    (Code.region 6 ops107 true).wp Tryz.prog Q a U := by
  obtain ⟨i0, hi, hz0, hz1, hz2⟩ := info_parts Tz.info9
  have HK := Lib.hid hK; have HS1 := Lib.hid hs1; have HS2 := Lib.hid hs2
  clear hK hs1 hs2
  refine wp_region_z (fun w' => Below U.heap.size U w') 11 (by kernel_rfl) ?_
  refine wpAnyZ_take 0 (oi := { dst := some 33, op := Op.move (Operand.tmp 0), type := 22, pos := "ref.go:356", after := #[], guard := none }) (below_drew _ _) rfl (by kernel_rfl) (by kernel_rfl) (by kernel_rfl) (fun c a w h => hQ c _ _ a w h) (by kernel_rfl) rfl (by rfl) (by intro w' hSw; go_simp <;> rfl) ?_
  refine wpAnyZ_take 1 (oi := { dst := some 34, op := Op.move (Operand.tmp 5), type := 3, pos := "ref.go:356", after := #[], guard := none }) (below_drew _ _) rfl (by kernel_rfl) (by kernel_rfl) (by kernel_rfl) (fun c a w h => hQ c _ _ a w h) (by kernel_rfl) rfl (by rfl) (by intro w' hSw; go_simp <;> rfl) ?_
  refine wpAnyZ_take 2 (oi := { dst := some 35, op := Op.slice 22 (Operand.tmp 33) none (some (Operand.tmp 34)) none, type := 22, pos := "ref.go:356", after := #[{ on := 0, ground := Ground.data }, { on := 1, ground := Ground.data }], guard := none }) (below_drew _ _) rfl (by kernel_rfl) (by kernel_rfl) (by kernel_rfl) (fun c a w h => hQ c _ _ a w h) (by kernel_rfl) rfl (by rfl) (by intro w' hSw; go_simp <;> rfl) ?_
  refine wpAnyZ_take 4 (oi := { dst := some 37, op := Op.move (Operand.tmp 1), type := 9, pos := "ref.go:356", after := #[], guard := none }) (below_drew _ _) rfl (by kernel_rfl) (by kernel_rfl) (by kernel_rfl) (fun c a w h => hQ c _ _ a w h) (by kernel_rfl) rfl (by rfl) (by intro w' hSw; go_simp <;> rfl) ?_
  refine wpAnyZ_take 7 (oi := { dst := some 40, op := Op.move (Operand.tmp 0), type := 22, pos := "ref.go:356", after := #[], guard := none }) (below_drew _ _) rfl (by kernel_rfl) (by kernel_rfl) (by kernel_rfl) (fun c a w h => hQ c _ _ a w h) (by kernel_rfl) rfl (by rfl) (by intro w' hSw; go_simp <;> rfl) ?_
  refine wpAnyZ_take 8 (oi := { dst := some 41, op := Op.move (Operand.tmp 5), type := 3, pos := "ref.go:356", after := #[], guard := none }) (below_drew _ _) rfl (by kernel_rfl) (by kernel_rfl) (by kernel_rfl) (fun c a w h => hQ c _ _ a w h) (by kernel_rfl) rfl (by rfl) (by intro w' hSw; go_simp <;> rfl) ?_
  refine wpAnyZ_take 9 (oi := { dst := some 42, op := Op.slice 22 (Operand.tmp 40) (some (Operand.tmp 41)) none none, type := 22, pos := "ref.go:356", after := #[{ on := 7, ground := Ground.data }, { on := 8, ground := Ground.data }], guard := none }) (below_drew _ _) rfl (by kernel_rfl) (by kernel_rfl) (by kernel_rfl) (fun c a w h => hQ c _ _ a w h) (by kernel_rfl) rfl (by rfl) (by intro w' hSw; go_simp <;> rfl) ?_
  refine wpAnyZ_two 3 5 (o := { dst := some 36, op := Op.call { callee := Callee.builtin Builtin.append, args := #[Operand.const (Value.slice none 0 0), Operand.tmp 35], argTypes := #[22, 22] }, type := 22, pos := "ref.go:356", after := #[{ on := 2, ground := Ground.data }], guard := none }) (o' := { dst := some 38, op := Op.buildSlice 22 1 #[(0, Operand.tmp 37)], type := 22, pos := "ref.go:356", after := #[{ on := 4, ground := Ground.data }], guard := none }) (by kernel_rfl) rfl rfl (fun KK hKK => ?_) (fun KK hKK => ?_)
  · refine step_append_any _ (by rfl) _ _ _ (by rfl) U.heap.size 9 i0 _ 1 16 Tz.underlying22 hi hz0 hz1 hz2 rfl (by decide) (.slice none 0 0) 0 [] (by go_simp) (World.ownsRow_nil _ _ _ _) (.slice none 0 0) k ((l.take k).map Value.string) (by go_simp) (HS1.out _ (below_drew _ _)) (by unfold maxLen; omega) (by omega) (Nat.le_refl _) ?_
    intro v3 w3 hown3 hgr3 hat3
    rw [Nat.zero_add, List.nil_append] at hown3
    have hb3 : Below U.heap.size U w3 := (below_drew _ _).trans (below_of_grown hgr3 (Nat.le_refl _) fun g hg => by cases hg)
    refine hKK.out _ _ (fun _ => hb3) ?_
    clear hKK KK
    refine wpAnyZ_one 5 (o := { dst := some 38, op := Op.buildSlice 22 1 #[(0, Operand.tmp 37)], type := 22, pos := "ref.go:356", after := #[{ on := 4, ground := Ground.data }], guard := none }) (by kernel_rfl) rfl fun KK hKK => ?_
    go_simp
    have hb5 : Below U.heap.size U (w3.alloc (.cells #[.string s] 9)) := hb3.alloc hb3.size _
    have hx5 := heap_alloc_new w3 (.cells #[.string s] 9)
    have hs5 : (w3.alloc (.cells #[.string s] 9)).heap.size = w3.heap.size + 1 := by simp
    have hr5 : (w3.alloc (.cells #[.string s] 9)).ownsRow U.heap.size 9 1 v3 k ((l.take k).map Value.string) := ownsRow_of_block hown3 fun g hg => Below.heap_alloc _ _ _ (hown3.lt g hg).2
    refine hKK.out _ _ (fun _ => hb5) ?_
    clear hKK KK
    generalize (w3.alloc (.cells #[.string s] 9)) = w5 at *
    generalize w3.heap.size = c5 at *
    have hc5 : AppSrc w5 1 (.slice (some ⟨c5, 0, none⟩) 1 1) 1 [Value.string s] := .inr ⟨⟨c5, 0, none⟩, 1, rfl, rfl, fun j u hj => by
      match j, hj with
      | 0, hj => exact (cell_box hx5).trans hj
      | j + 1, hj => simp at hj, fun u hu => by simp at hu; subst hu; rfl⟩
    have HB5 := Lib.hid hb5; have HR3 := Lib.hid hr5; have HC5 := Lib.hid hc5
    have hsz5 := hb5.size
    clear hb3 hown3 hgr3 hat3 hb5 hx5 hs5 hr5 hc5
    refine wpAnyZ_one 6 (o := { dst := some 39, op := Op.call { callee := Callee.builtin Builtin.append, args := #[Operand.tmp 36, Operand.tmp 38], argTypes := #[22, 22] }, type := 22, pos := "ref.go:356", after := #[{ on := 3, ground := Ground.data }, { on := 5, ground := Ground.data }, { on := 3, ground := Ground.chain }], guard := none }) (by kernel_rfl) rfl fun KK hKK => ?_
    refine step_append_any _ (by rfl) _ _ _ (by rfl) U.heap.size 9 i0 _ 1 16 Tz.underlying22 hi hz0 hz1 hz2 rfl (by decide) v3 k ((l.take k).map Value.string) (by go_simp) HR3.out (.slice (some ⟨c5, 0, none⟩) 1 1) 1 [Value.string s] (by go_simp) HC5.out (by unfold maxLen; omega) (by omega) (by omega) ?_
    intro v6 w6 hown6 hgr6 hat6
    have hb6 : Below U.heap.size U w6 := HB5.out.trans (below_of_grown hgr6 HB5.out.size fun g hg => (HR3.out.lt g hg).1)
    have HR6 := Lib.hid hown6; have HB6 := Lib.hid hb6
    have hs6 := hb6.size
    clear hown6 hgr6 hat6 hb6
    refine hKK.out _ _ (fun _ => HB6.out) ?_
    clear hKK KK
    refine wpAnyZ_one 10 (o := { dst := some 43, op := Op.call { callee := Callee.builtin Builtin.append, args := #[Operand.tmp 39, Operand.tmp 42], argTypes := #[22, 22] }, type := 22, pos := "ref.go:356", after := #[{ on := 6, ground := Ground.data }, { on := 9, ground := Ground.data }, { on := 6, ground := Ground.chain }], guard := none }) (by kernel_rfl) rfl fun KK hKK => ?_
    refine step_append_any _ (by rfl) _ _ _ (by rfl) U.heap.size 9 i0 _ 1 16 Tz.underlying22 hi hz0 hz1 hz2 rfl (by decide) v6 (k + 1) ((l.take k).map Value.string ++ [Value.string s]) (by go_simp) HR6.out (.slice none 0 0) (l.length - k) ((l.drop k).map Value.string) (by go_simp) (HS2.out _ HB6.out) (by unfold maxLen; omega) (by omega) (by omega) ?_
    intro v7 w7 hown7 hgr7 hat7
    have hb7 : Below U.heap.size U w7 := HB6.out.trans (below_of_grown hgr7 HB6.out.size fun g hg => (HR6.out.lt g hg).1)
    have hn7 : k + 1 + (l.length - k) = l.length + 1 := by omega
    have hx7 : (l.take k).map Value.string ++ [Value.string s] ++ (l.drop k).map Value.string = (l.take k ++ s :: l.drop k).map Value.string := by simp
    rw [hn7, hx7] at hown7
    have HR7 := Lib.hid hown7; have HB7 := Lib.hid hb7
    clear hown7 hgr7 hat7 hb7 hn7 hx7
    refine hKK.out _ _ (fun _ => HB7.out) ?_
    clear hKK KK
    refine wpAnyZ_one 11 (o := { dst := some 4, op := Op.assign (Operand.tmp 43), type := 22, pos := "ref.go:356", after := #[{ on := 10, ground := Ground.data }, { on := 10, ground := Ground.chain }, { on := 0, ground := Ground.phase }, { on := 1, ground := Ground.phase }, { on := 2, ground := Ground.phase }, { on := 3, ground := Ground.phase }, { on := 4, ground := Ground.phase }, { on := 5, ground := Ground.phase }, { on := 6, ground := Ground.phase }, { on := 7, ground := Ground.phase }, { on := 8, ground := Ground.phase }, { on := 9, ground := Ground.phase }, { on := 10, ground := Ground.phase }], guard := none }) (by kernel_rfl) rfl fun KK hKK => ?_
    go_simp
    refine hKK.out _ _ (fun h => absurd rfl h) ?_
    refine wpAnyZ_done (by kernel_rfl) ?_ _
    exact HK.out _ _ v7 (by simp [hsz]) rfl (by simp [hsz]) HR7.out HB7.out
  · go_simp
    have hb5 : Below U.heap.size U (U.alloc (.cells #[.string s] 9)).drew := ((Below.refl _ _).alloc (Nat.le_refl _) _).trans (below_drew _ _)
    have hx5 : (U.alloc (.cells #[.string s] 9)).drew.heap[U.heap.size]? = _ := heap_alloc_new U (.cells #[.string s] 9)
    have hs5 : (U.alloc (.cells #[.string s] 9)).drew.heap.size = U.heap.size + 1 := by simp [World.drew]
    refine hKK.out _ _ (fun _ => hb5) ?_
    clear hKK KK
    generalize (U.alloc (.cells #[.string s] 9)).drew = w5 at *
    refine wpAnyZ_one 3 (o := { dst := some 36, op := Op.call { callee := Callee.builtin Builtin.append, args := #[Operand.const (Value.slice none 0 0), Operand.tmp 35], argTypes := #[22, 22] }, type := 22, pos := "ref.go:356", after := #[{ on := 2, ground := Ground.data }], guard := none }) (by kernel_rfl) rfl fun KK hKK => ?_
    refine step_append_any _ (by rfl) _ _ _ (by rfl) U.heap.size 9 i0 _ 1 16 Tz.underlying22 hi hz0 hz1 hz2 rfl (by decide) (.slice none 0 0) 0 [] (by go_simp) (World.ownsRow_nil _ _ _ _) (.slice none 0 0) k ((l.take k).map Value.string) (by go_simp) (HS1.out _ hb5) (by unfold maxLen; omega) (by omega) (by omega) ?_
    intro v3 w3 hown3 hgr3 hat3
    rw [Nat.zero_add, List.nil_append] at hown3
    have hb3 : Below U.heap.size U w3 := hb5.trans (below_of_grown hgr3 (by omega) fun g hg => by cases hg)
    have hx3 := (hgr3.block _ (by omega) (fun e => by cases e)).trans hx5
    refine hKK.out _ _ (fun _ => hb3) ?_
    clear hKK KK
    generalize hc5' : U.heap.size = c5 at hx3 ⊢
    have hc5 : AppSrc w3 1 (.slice (some ⟨c5, 0, none⟩) 1 1) 1 [Value.string s] := .inr ⟨⟨c5, 0, none⟩, 1, rfl, rfl, fun j u hj => by
      match j, hj with
      | 0, hj => exact (cell_box hx3).trans hj
      | j + 1, hj => simp at hj, fun u hu => by simp at hu; subst hu; rfl⟩
    have HB5 := Lib.hid hb3; have HR3 := Lib.hid hown3; have HC5 := Lib.hid hc5
    have hsz5 := hb3.size
    clear hb3 hown3 hgr3 hat3 hb5 hx5 hs5 hx3 hc5
    rw [← hc5']
    rw [← hc5'] at HC5
    clear hc5'
    refine wpAnyZ_one 6 (o := { dst := some 39, op := Op.call { callee := Callee.builtin Builtin.append, args := #[Operand.tmp 36, Operand.tmp 38], argTypes := #[22, 22] }, type := 22, pos := "ref.go:356", after := #[{ on := 3, ground := Ground.data }, { on := 5, ground := Ground.data }, { on := 3, ground := Ground.chain }], guard := none }) (by kernel_rfl) rfl fun KK hKK => ?_
    refine step_append_any _ (by rfl) _ _ _ (by rfl) U.heap.size 9 i0 _ 1 16 Tz.underlying22 hi hz0 hz1 hz2 rfl (by decide) v3 k ((l.take k).map Value.string) (by go_simp) HR3.out (.slice (some ⟨U.heap.size, 0, none⟩) 1 1) 1 [Value.string s] (by go_simp) HC5.out (by unfold maxLen; omega) (by omega) (by omega) ?_
    intro v6 w6 hown6 hgr6 hat6
    have hb6 : Below U.heap.size U w6 := HB5.out.trans (below_of_grown hgr6 HB5.out.size fun g hg => (HR3.out.lt g hg).1)
    have HR6 := Lib.hid hown6; have HB6 := Lib.hid hb6
    have hs6 := hb6.size
    clear hown6 hgr6 hat6 hb6
    refine hKK.out _ _ (fun _ => HB6.out) ?_
    clear hKK KK
    refine wpAnyZ_one 10 (o := { dst := some 43, op := Op.call { callee := Callee.builtin Builtin.append, args := #[Operand.tmp 39, Operand.tmp 42], argTypes := #[22, 22] }, type := 22, pos := "ref.go:356", after := #[{ on := 6, ground := Ground.data }, { on := 9, ground := Ground.data }, { on := 6, ground := Ground.chain }], guard := none }) (by kernel_rfl) rfl fun KK hKK => ?_
    refine step_append_any _ (by rfl) _ _ _ (by rfl) U.heap.size 9 i0 _ 1 16 Tz.underlying22 hi hz0 hz1 hz2 rfl (by decide) v6 (k + 1) ((l.take k).map Value.string ++ [Value.string s]) (by go_simp) HR6.out (.slice none 0 0) (l.length - k) ((l.drop k).map Value.string) (by go_simp) (HS2.out _ HB6.out) (by unfold maxLen; omega) (by omega) (by omega) ?_
    intro v7 w7 hown7 hgr7 hat7
    have hb7 : Below U.heap.size U w7 := HB6.out.trans (below_of_grown hgr7 HB6.out.size fun g hg => (HR6.out.lt g hg).1)
    have hn7 : k + 1 + (l.length - k) = l.length + 1 := by omega
    have hx7 : (l.take k).map Value.string ++ [Value.string s] ++ (l.drop k).map Value.string = (l.take k ++ s :: l.drop k).map Value.string := by simp
    rw [hn7, hx7] at hown7
    have HR7 := Lib.hid hown7; have HB7 := Lib.hid hb7
    clear hown7 hgr7 hat7 hb7 hn7 hx7
    refine hKK.out _ _ (fun _ => HB7.out) ?_
    clear hKK KK
    refine wpAnyZ_one 11 (o := { dst := some 4, op := Op.assign (Operand.tmp 43), type := 22, pos := "ref.go:356", after := #[{ on := 10, ground := Ground.data }, { on := 10, ground := Ground.chain }, { on := 0, ground := Ground.phase }, { on := 1, ground := Ground.phase }, { on := 2, ground := Ground.phase }, { on := 3, ground := Ground.phase }, { on := 4, ground := Ground.phase }, { on := 5, ground := Ground.phase }, { on := 6, ground := Ground.phase }, { on := 7, ground := Ground.phase }, { on := 8, ground := Ground.phase }, { on := 9, ground := Ground.phase }, { on := 10, ground := Ground.phase }], guard := none }) (by kernel_rfl) rfl fun KK hKK => ?_
    go_simp
    refine hKK.out _ _ (fun h => absurd rfl h) ?_
    refine wpAnyZ_done (by kernel_rfl) ?_ _
    exact HK.out _ _ v7 (by simp [hsz]) rfl (by simp [hsz]) HR7.out HB7.out

end Go.Proofs.YtjpahjfjpkbcnaaGreat

/- put: a string put into a sorted list. -/
namespace Go.Proofs.YtjpahjfjpkbcnaaGreat
open Go.Proofs Go.RowKit

def ltB (a b : ByteArray) : Bool := Op.bytesLess a.toList b.toList
def idxB (s : ByteArray) : List ByteArray → Nat
  | [] => 0
  | x :: xs => if ltB x s then idxB s xs + 1 else 0
def putL (s : ByteArray) : List ByteArray → List ByteArray
  | [] => [s]
  | x :: xs => if ltB x s then x :: putL s xs else if x.toList == s.toList then x :: xs else s :: x :: xs

theorem idxB_drop (s : ByteArray) (l : List ByteArray) (k : Nat) (h : k < l.length) : idxB s (l.drop k) = if ltB l[k] s then idxB s (l.drop (k + 1)) + 1 else 0 := by
  rw [List.drop_eq_getElem_cons h]
  rfl
theorem putL_at (s : ByteArray) : ∀ (l : List ByteArray) (k : Nat), idxB s l = k → putL s l = if h : k < l.length then (if l[k].toList == s.toList then l else l.take k ++ s :: l.drop k) else l.take k ++ s :: l.drop k
  | [], k, h => by simp [putL]
  | x :: xs, k, h => by
    unfold putL
    unfold idxB at h
    cases hx : ltB x s with
    | false =>
      rw [hx] at h
      subst h
      simp
    | true =>
      rw [hx, if_pos rfl] at h
      subst h
      rw [if_pos rfl, putL_at s xs _ rfl]
      by_cases h2 : idxB s xs < xs.length
      · rw [dif_pos h2, dif_pos (show idxB s xs + 1 < (x :: xs).length by simpa using h2)]
        simp only [List.getElem_cons_succ]
        split <;> simp
      · rw [dif_neg h2, dif_neg (show ¬ (idxB s xs + 1 < (x :: xs).length) by simpa using h2)]
        simp
theorem idxB_le (s : ByteArray) : ∀ l : List ByteArray, idxB s l ≤ l.length
  | [] => Nat.le_refl _
  | x :: xs => by unfold idxB; have := idxB_le s xs; split <;> simp <;> omega
theorem addr_add (b o j : Nat) : (⟨b, o, none⟩ : Addr).add j = ⟨b, o + j, none⟩ := by unfold Addr.add; split <;> simp_all
theorem strsAt_cells {w : World} : ∀ (ss : List ByteArray) (b o : Nat), (∀ i u, (ss.map Value.string)[i]? = some u → w.cell? ⟨b, o + i, none⟩ = some u) → (∀ s ∈ ss, s.size ≤ maxLen) → StrsAt w ss b o
  | [], _, _, _, _ => trivial
  | s :: ss, b, o, h, hs => ⟨⟨h 0 _ rfl, hs s List.mem_cons_self⟩, strsAt_cells ss b (o + 1) (fun i u hi => by
      have := h (i + 1) u (by simpa using hi)
      rwa [show o + 1 + i = o + (i + 1) by omega]) fun x hx => hs x (List.mem_cons_of_mem _ hx)⟩
theorem strs_owned {w : World} {base : Nat} {v : Value} {n : Nat} {ss : List ByteArray} (h : w.ownsRow base 9 1 v n (ss.map Value.string)) (hn : ss.length = n) (hs : ∀ s ∈ ss, s.size ≤ maxLen) :
    SlIn (fun b => base ≤ b ∧ b < w.heap.size) v ss.length fun b o => StrsAt w ss b o := by
  subst hn
  exact owned_sl h (fun b hb => h.lt b hb) fun b hb hc => strsAt_cells ss b 0 hc hs

set_option maxHeartbeats 2000000 in
set_option maxRecDepth 10000 in
theorem put_any (l : List ByteArray) (s : ByteArray) (v : Value) (w : World) (hv : SlIn (fun b => b < w.heap.size) v l.length fun b o => StrsAt w l b o) (hs : s.size ≤ maxLen) (hn : l.length ≤ 1000000) :
    Calls Tryz.prog 107 #[v, .string s] w fun e w' => (∃ v', e = .returned v' ∧ SlIn (fun b => b < w'.heap.size) v' (putL s l).length fun b o => StrsAt w' (putL s l) b o) ∧ Below w.heap.size w w' := by
  rcases hv with ⟨hl, rfl⟩ | ⟨b, o, cap, rfl, hlc, hcm, hbn, hss⟩
  · obtain rfl : l = [] := List.eq_nil_of_length_eq_zero hl
    clear hl
    go_enter Tryz.func107, Tryz.ntmps107
    go_wp2
    go_loop [5] (fun i => i = .int .i64 0) (fun _ => 0)
    case atStart => rfl
    case round =>
      subst hrel
      go_wp2
      refine reg107n (l := []) (k := 0) rfl rfl rfl rfl (fun _ _ _ _ _ h => h) (fun _ _ => .inl ⟨rfl, rfl, rfl⟩) (fun _ _ => .inl ⟨rfl, rfl, rfl⟩) (by simp) (Nat.le_refl _) rfl ?_
      intro a' w' v g1 g2 g3 hr hb
      have HR := Lib.hid hr; have HB := Lib.hid hb
      clear hr hb
      obtain ⟨ts, dsf⟩ := a'
      simp at g2
      subst g2
      go_wp2
      refine bodyPost_ret (v := v) (by simp [results, Tryz.results107, go_sem, g3]) rfl ⟨⟨_, rfl, ?_⟩, HB.out⟩
      exact (strs_owned (ss := [s]) HR.out rfl (by intro x hx; simp at hx; subst hx; exact hs)).mono (fun b h => h.2) fun _ _ _ h => h
  · have HSS := Lib.hid hss
    have hmax : ∀ x ∈ l, x.size ≤ maxLen := fun x hx => by
      obtain ⟨j, hj, rfl⟩ := List.getElem_of_mem hx
      exact (StrsAt.get l b o hss j hj).2
    have HMX := Lib.hid hmax
    clear hss hmax
    have hcm' := hcm
    unfold maxLen at hcm
    go_enter Tryz.func107, Tryz.ntmps107
    go_wp2
    go_loop [5] (fun i => ∃ k : Nat, k ≤ l.length ∧ i = .int .i64 k ∧ Hid (idxB s l = k + idxB s (l.drop k))) (fun i => l.length - (intOf i).toNat)
    case atStart => exact ⟨0, Nat.zero_le _, rfl, by unfold Hid; simp⟩
    case round =>
      obtain ⟨k, hk, rfl, HP⟩ := hrel
      have hfin : ∀ (Q : Exit → Act → World → Prop) (a : Act), k ≤ cap → putL s l = l.take k ++ s :: l.drop k → (hsz : a.tmps.size = 44) → (h0 : a.tmps[0]'(by omega) = (.slice (some ⟨b, o, none⟩) l.length cap)) → (h1 : a.tmps[1]'(by omega) = .string s) → (h5 : a.tmps[5]'(by omega) = .int .i64 k) →
          (hQ : ∀ c (d : Nat) v (a : Act) w, Q (.panic c) (a.put (some d) v) w → Q (.panic c) a w) →
          (∀ (a' : Act) (w' : World) (v : Value), a'.tmps.size = 44 → a'.defers = a.defers → a'.tmps[4]? = some v → SlIn (fun b => b < w'.heap.size) v (putL s l).length (fun b o => StrsAt w' (putL s l) b o) → Below w.heap.size w w' → Q .normal a' w') →
          (Code.region 6 ops107 true).wp Tryz.prog Q a w := by
        intro Q a hkc hpl hsz h0 h1 h5 hQ hK
        obtain ⟨ad, had⟩ : ∃ ad : Addr, (if cap = k then some (⟨b, o, none⟩ : Addr) else some ⟨b, o + k, none⟩) = some ad := by split <;> exact ⟨_, rfl⟩
        refine reg107 (l := l) (k := k) (b := b) (o := o) (cap := cap) (ad := ad) hsz h0 h1 h5 hQ (fun w' hb => ?_) (fun w' hb => ?_) hn hk hkc had ?_
        · refine .inr ⟨⟨b, o, none⟩, cap, rfl, by simp; omega, fun j u hj => ?_, string_one _⟩
          rw [addr_add]
          have h2 := StrsAt.take l k b o (StrsAt.keep hb _ _ _ hbn HSS.out)
          exact StrsAt.cells _ b o h2 j u hj
        · by_cases hck : cap = k
          · have hl0 : l.length - k = 0 := by omega
            have hd0 : l.drop k = [] := List.drop_eq_nil_of_le (by omega)
            rw [hl0, hd0]
            exact .inr ⟨ad, _, rfl, rfl, fun j u hj => by simp at hj, fun u hu => by simp at hu⟩
          · rw [if_neg hck] at had
            cases had
            refine .inr ⟨⟨b, o + k, none⟩, cap - k, rfl, by simp, fun j u hj => ?_, string_one _⟩
            rw [addr_add, Nat.add_assoc]
            have h2 := StrsAt.cells l b o (StrsAt.keep hb _ _ _ hbn HSS.out) (k + j) u
            rw [List.map_drop, List.getElem?_drop] at hj
            exact h2 hj
        · intro a' w' v g1 g2 g3 hr hb
          refine hK a' w' v g1 g2 g3 ?_ hb
          rw [hpl]
          refine (strs_owned hr (by simp; omega) ?_).mono (fun b h => h.2) fun _ _ _ h => h
          intro x hx
          rcases List.mem_append.1 hx with h | h
          · exact HMX.out x (List.mem_of_mem_take h)
          · rcases List.mem_cons.1 h with rfl | h
            · exact hs
            · exact HMX.out x (List.mem_of_mem_drop h)
      have HFIN := Lib.hid hfin
      clear hfin
      by_cases hlt : k < l.length
      · obtain ⟨hg, hgs⟩ := StrsAt.get l b o HSS.out k hlt
        have hlt' : (k : Int) < (l.length : Int) := by omega
        have hd := idxB_drop s l k hlt
        cases hx : ltB l[k] s with
        | true =>
          rw [hx] at hd
          have hx' : Op.bytesLess l[k].toList s.toList = true := hx
          have HD := Lib.hid hd
          clear hd hx
          go_wp2
          go_round
          case rel => exact ⟨k + 1, by omega, by go_num, by unfold Hid; rw [HP.out, HD.out, if_pos rfl]; omega⟩
          case measure => simp [intOf]; omega
        | false =>
          rw [hx] at hd
          have hx' : Op.bytesLess l[k].toList s.toList = false := hx
          have hik : idxB s l = k := by rw [HP.out, hd]; rfl
          have hpl := putL_at s l k hik
          rw [dif_pos hlt] at hpl
          cases heq : l[k].toList == s.toList with
          | true =>
            rw [heq, if_pos rfl] at hpl
            have HPL := Lib.hid hpl
            clear hd hx hik hpl
            go_wp2
            go_ret
            refine ⟨⟨_, rfl, ?_⟩, Below.refl _ _⟩
            rw [HPL.out]
            exact .inr ⟨b, o, cap, rfl, hlc, hcm', hbn, HSS.out⟩
          | false =>
            rw [heq] at hpl
            have HPL := Lib.hid hpl
            clear hd hx hik hpl
            go_wp2
            refine HFIN.out _ _ (by omega) HPL.out rfl rfl rfl rfl (fun _ _ _ _ _ h => h) ?_
            intro a' w' v g1 g2 g3 hr hb
            have HR := Lib.hid hr; have HB := Lib.hid hb
            clear hr hb
            obtain ⟨ts, dsf⟩ := a'
            simp at g2
            subst g2
            go_wp2
            exact bodyPost_ret (v := v) (by simp [results, Tryz.results107, go_sem, g3]) rfl ⟨⟨_, rfl, HR.out⟩, HB.out⟩
      · have hlt' : ¬ ((k : Int) < (l.length : Int)) := by omega
        have hik : idxB s l = k := by rw [HP.out, List.drop_eq_nil_of_le (by omega)]; rfl
        have hpl := putL_at s l k hik
        rw [dif_neg hlt] at hpl
        have HPL := Lib.hid hpl
        clear hik hpl
        go_wp2
        refine HFIN.out _ _ (by omega) HPL.out rfl rfl rfl rfl (fun _ _ _ _ _ h => h) ?_
        intro a' w' v g1 g2 g3 hr hb
        have HR := Lib.hid hr; have HB := Lib.hid hb
        clear hr hb
        obtain ⟨ts, dsf⟩ := a'
        simp at g2
        subst g2
        go_wp2
        exact bodyPost_ret (v := v) (by simp [results, Tryz.results107, go_sem, g3]) rfl ⟨⟨_, rfl, HR.out⟩, HB.out⟩

end Go.Proofs.YtjpahjfjpkbcnaaGreat

/- Binds: the names that a term binds in one of its Kids. -/
namespace Go.Proofs.YtjpahjfjpkbcnaaGreat
open Go.Proofs Go.RowKit

set_option maxHeartbeats 2000000 in
set_option maxRecDepth 100000 in
theorem Binds_any (T : Tm) (i : Nat) (v : Value) (w : World) (hT : TmAt w.heap.size w T v) (hi : i < 1000000) (hp : T.op = 15 → 0 < i → i - 1 < T.pats.length)
    (hh : ∀ p ∈ T.pats, patsB p = true ∧ (partsP 1 p).length ≤ 1000000) :
    Calls Tryz.prog 106 #[v, .int .i64 i] w fun e w' => (∃ v', e = .returned v' ∧ SlIn (Fresh w w') v' (boundL T i).length fun b o => StrsAt w' (boundL T i) b o) ∧ Below w.heap.size w w' := by
  obtain ⟨a, cap, a', cap', rfl, htx, hk, hps⟩ := hT.parts
  have HTX := Lib.hid htx; have HPS := Lib.hid hps; have HH := Lib.hid hh; have HP := Lib.hid hp
  clear htx hps hk hT hh hp
  have fin1 : ∀ o, boundL T i = [T.text] → (∃ v', Ending.returned (.slice (some ⟨w.heap.size + 1, 0, none⟩) 1 1) = Ending.returned v' ∧ SlIn (Fresh w ((w.alloc o).alloc (.cells #[.string T.text] 9))) v' (boundL T i).length fun b o' => StrsAt ((w.alloc o).alloc (.cells #[.string T.text] 9)) (boundL T i) b o') ∧ Below w.heap.size w ((w.alloc o).alloc (.cells #[.string T.text] 9)) := by
    intro o hb
    rw [hb]
    have hc := heap_alloc_new (w.alloc o) (.cells #[.string T.text] 9)
    rw [World.size_alloc] at hc
    refine ⟨⟨_, rfl, .inr ⟨w.heap.size + 1, 0, 1, rfl, Nat.le_refl _, by unfold maxLen; omega, ⟨by omega, by simp⟩, ⟨⟨cell_box hc, HTX.out⟩, trivial⟩⟩⟩, ((Below.refl _ w).alloc (Nat.le_refl _) _).alloc (by simp) _⟩
  have fin0 : ∀ o, boundL T i = [] → (∃ v', Ending.returned (.slice none 0 0) = Ending.returned v' ∧ SlIn (Fresh w (w.alloc o)) v' (boundL T i).length fun b o' => StrsAt (w.alloc o) (boundL T i) b o') ∧ Below w.heap.size w (w.alloc o) := by
    intro o hb
    rw [hb]
    exact ⟨⟨_, rfl, .inl ⟨rfl, rfl⟩⟩, (Below.refl _ w).alloc (Nat.le_refl _) _⟩
  have FIN1 := Lib.hid fin1; have FIN0 := Lib.hid fin0
  clear fin1 fin0
  go_enter Tryz.func106, Tryz.ntmps106
  by_cases h5 : T.op = 5
  · have hb : Hid (boundL T i = [T.text]) := by unfold Hid boundL; simp [h5]
    go_wp2
    go_ret
    exact FIN1.out _ hb.out
  by_cases h27 : T.op = 27
  · have hb : Hid (boundL T i = [T.text]) := by unfold Hid boundL; simp [h27]
    go_wp2
    go_ret
    exact FIN1.out _ hb.out
  by_cases h7 : T.op = 7
  · by_cases hi1 : i = 1
    · have hb : Hid (boundL T i = [T.text]) := by unfold Hid boundL; simp [h7, hi1]
      subst hi1
      go_wp2
      go_ret
      exact FIN1.out _ hb.out
    · have hb : Hid (boundL T i = []) := by unfold Hid boundL; simp [h7, hi1]
      have hi1' : ¬ ((i : Int) = 1) := by omega
      go_wp2
      go_ret
      exact FIN0.out _ hb.out
  by_cases h15 : T.op = 15
  · by_cases hi0 : 0 < i
    · obtain ⟨j, rfl⟩ : ∃ j, i = j + 1 := ⟨i - 1, by omega⟩
      have hj : j < T.pats.length := by simpa using HP.out h15 hi0
      have hb : Hid (boundL T (j + 1) = namesP T.pats[j]) := by unfold Hid boundL; simp [h15, hj]
      have hbox := heap_alloc_new w (.cells #[.int .i64 15, .int .i64 T.n, .string T.text, .slice a T.kids.length cap, .slice a' T.pats.length cap'] 32)
      obtain ⟨b, o, cap2, he, hc1, hc2, hbn, hss⟩ : ∃ b o cap2, (Value.slice a' T.pats.length cap') = .slice (some ⟨b, o, none⟩) T.pats.length cap2 ∧ T.pats.length ≤ cap2 ∧ cap2 ≤ maxLen ∧ b < w.heap.size ∧ PtsAt w.heap.size w T.pats b o := by
        rcases HPS.out with ⟨h, -⟩ | ⟨b, o, cap2, h1, h2, h3, h4, h5⟩
        · omega
        · exact ⟨b, o, cap2, h1, h2, h3, h4, h5⟩
      cases he
      obtain ⟨c0, c1, c2, c3, g0, g1, g2, g3, ht⟩ := PtsAt.get T.pats b o hss j hj
      have hBl : Below w.heap.size w (w.alloc (.cells #[.int .i64 15, .int .i64 T.n, .string T.text, .slice a T.kids.length cap, .slice (some ⟨b, o, none⟩) T.pats.length cap'] 32)) := (Below.refl _ w).alloc (Nat.le_refl _) _
      have q0 := (hBl.cell (p := ⟨b, _, none⟩) hbn).trans g0
      have q1 := (hBl.cell (p := ⟨b, _, none⟩) hbn).trans g1
      have q2 := (hBl.cell (p := ⟨b, _, none⟩) hbn).trans g2
      have q3 := (hBl.cell (p := ⟨b, _, none⟩) hbn).trans g3
      have hpj := HH.out _ (List.getElem_mem hj)
      have hnl : (patN T.pats[j]).length ≤ 1000000 := by have := patN_le T.pats[j] 1; omega
      have hnm := PatNames_any T.pats[j] (.agg #[c0, c1, c2, c3]) _ (PtAt.keep hBl hBl.size _ _ ht) (partsP_lens _ 1 hpj.2) hnl
      rw [patN_names _ 1 hpj.1] at hnm
      have HNM := Lib.hid hnm; have HBL := Lib.hid hBl
      clear hnm hBl hss ht g0 g1 g2 g3 hbox hpj hnl
      go_wp2_with fail
      refine HNM.out.mono ?_
      rintro e w1 ⟨⟨v2, rfl, hsl⟩, hb1⟩
      obtain ⟨a2, cap2, rfl⟩ := hsl.split
      have HSL := Lib.hid hsl; have HB1 := Lib.hid hb1
      clear hsl hb1
      go_wp2
      go_ret
      rw [hb.out]
      exact ⟨⟨_, rfl, HSL.out.mono (fun b h => ⟨by have := h.1; simp at this; omega, h.2⟩) fun _ _ _ h => h⟩, HBL.out.trans (HB1.out.mono (by simp))⟩
    · have hb : Hid (boundL T i = []) := by unfold Hid boundL; simp [h15, hi0]
      have hi0' : i = 0 := by omega
      subst hi0'
      go_wp2
      go_ret
      exact FIN0.out _ hb.out
  · have hb : Hid (boundL T i = []) := by unfold Hid boundL; simp [h5, h27, h7, h15]
    go_wp2
    go_ret
    exact FIN0.out _ hb.out

end Go.Proofs.YtjpahjfjpkbcnaaGreat

/- The specification's Free, its region 7: the names of a kid, and those that are bound there. -/
namespace Go.Proofs.YtjpahjfjpkbcnaaGreat
open Go.Proofs Go.RowKit
attribute [local go_sem] eval_put_same eval_put_ne size_put

def ops48 : Array Oper := #[{ dst := some 21, op := Op.fieldAddr 32 (Operand.tmp 1) 3, type := 0, pos := "ref.go:366", after := #[], guard := none }, { dst := some 22, op := Op.load 29 (Operand.tmp 21), type := 29, pos := "ref.go:366", after := #[{ on := 0, ground := Ground.data }], guard := none }, { dst := some 23, op := Op.move (Operand.tmp 4), type := 3, pos := "ref.go:366", after := #[], guard := none }, { dst := some 24, op := Op.indexAddr 29 (Operand.tmp 22) (Operand.tmp 23), type := 0, pos := "ref.go:366", after := #[{ on := 1, ground := Ground.data }, { on := 2, ground := Ground.data }], guard := none }, { dst := some 25, op := Op.load 32 (Operand.tmp 24), type := 32, pos := "ref.go:366", after := #[{ on := 3, ground := Ground.data }], guard := none }, { dst := some 26, op := Op.call { callee := Callee.value (Operand.func 48), args := #[Operand.tmp 25], argTypes := #[32] }, type := 22, pos := "ref.go:366", after := #[{ on := 4, ground := Ground.data }], guard := none }, { dst := some 27, op := Op.load 32 (Operand.tmp 1), type := 32, pos := "ref.go:366", after := #[], guard := none }, { dst := some 28, op := Op.move (Operand.tmp 4), type := 3, pos := "ref.go:366", after := #[], guard := none }, { dst := some 29, op := Op.call { callee := Callee.value (Operand.func 106), args := #[Operand.tmp 27, Operand.tmp 28], argTypes := #[32, 3] }, type := 22, pos := "ref.go:366", after := #[{ on := 6, ground := Ground.data }, { on := 7, ground := Ground.data }, { on := 5, ground := Ground.chain }], guard := none }, { dst := some 5, op := Op.assign (Operand.tmp 26), type := 22, pos := "ref.go:366", after := #[{ on := 5, ground := Ground.data }, { on := 8, ground := Ground.chain }, { on := 0, ground := Ground.phase }, { on := 1, ground := Ground.phase }, { on := 2, ground := Ground.phase }, { on := 3, ground := Ground.phase }, { on := 4, ground := Ground.phase }, { on := 5, ground := Ground.phase }, { on := 6, ground := Ground.textOnly Departure.lateStores }, { on := 7, ground := Ground.textOnly Departure.lateStores }, { on := 8, ground := Ground.textOnly Departure.lateStoresUnsure }], guard := none }, { dst := some 6, op := Op.assign (Operand.tmp 29), type := 22, pos := "ref.go:366", after := #[{ on := 8, ground := Ground.data }, { on := 9, ground := Ground.chain }, { on := 0, ground := Ground.phase }, { on := 1, ground := Ground.phase }, { on := 2, ground := Ground.phase }, { on := 3, ground := Ground.phase }, { on := 4, ground := Ground.phase }, { on := 5, ground := Ground.phase }, { on := 6, ground := Ground.phase }, { on := 7, ground := Ground.phase }, { on := 8, ground := Ground.phase }, { on := 9, ground := Ground.phase }], guard := none }]

set_option maxHeartbeats 2000000 in
set_option maxRecDepth 100000 in
theorem reg48 {Q : Exit → Act → World → Prop} {a : Act} {U : World} {T : Tm} {qb b o k kc pc : Nat} {pa : Option Addr} {oo nn : Int} {tt : ByteArray} {ka2 pa2 : Option Addr} {kn2 kc2 pn2 pc2 : Nat} {R1 : Value → World → Prop} {R2 : Value → World → World → Prop}
    (hsz : a.tmps.size = 50) (h1 : a.tmps[1]'(by omega) = .pointer (some ⟨qb, 0, none⟩)) (h4 : a.tmps[4]'(by omega) = .int .i64 k)
    (hQ : ∀ c (d : Nat) v (a : Act) w, Q (.panic c) (a.put (some d) v) w → Q (.panic c) a w)
    (hS : (U.cell? ⟨qb, 0, none⟩ = some (.int .i64 T.op) ∧ U.cell? ⟨qb, 1, none⟩ = some (.int .i64 T.n) ∧ U.cell? ⟨qb, 2, none⟩ = some (.string T.text) ∧ U.cell? ⟨qb, 3, none⟩ = some (.slice (some ⟨b, o, none⟩) T.kids.length kc) ∧ U.cell? ⟨qb, 4, none⟩ = some (.slice pa T.pats.length pc)) ∧ (U.cell? ⟨b, o + k * 5, none⟩ = some (.int .i64 oo) ∧ U.cell? ⟨b, o + k * 5 + 1, none⟩ = some (.int .i64 nn) ∧ U.cell? ⟨b, o + k * 5 + 2, none⟩ = some (.string tt) ∧ U.cell? ⟨b, o + k * 5 + 3, none⟩ = some (.slice ka2 kn2 kc2) ∧ U.cell? ⟨b, o + k * 5 + 4, none⟩ = some (.slice pa2 pn2 pc2))) (hqb : qb < U.heap.size) (hbb : b < U.heap.size) (hk : k < T.kids.length)
    (hc1 : Calls Tryz.prog 48 #[.agg #[.int .i64 oo, .int .i64 nn, .string tt, .slice ka2 kn2 kc2, .slice pa2 pn2 pc2]] U.drew fun e w' => (∃ v1, e = .returned v1 ∧ R1 v1 w') ∧ Below U.heap.size U w')
    (hc2 : ∀ w1, Below U.heap.size U w1 → Calls Tryz.prog 106 #[.agg #[.int .i64 T.op, .int .i64 T.n, .string T.text, .slice (some ⟨b, o, none⟩) T.kids.length kc, .slice pa T.pats.length pc], .int .i64 k] w1 fun e w' => (∃ v2, e = .returned v2 ∧ R2 v2 w1 w') ∧ Below w1.heap.size w1 w')
    (hK : ∀ (u21 u22 u23 u24 u25 u27 u28 v1 v2 : Value) (w1 w2 : World), R1 v1 w1 → R2 v2 w1 w2 → Below U.heap.size U w1 → Below w1.heap.size w1 w2 →
      Q .normal { tmps := (((((((((((a.tmps.setIfInBounds 21 u21).setIfInBounds 22 u22).setIfInBounds 23 u23).setIfInBounds 24 u24).setIfInBounds 25 u25).setIfInBounds 27 u27).setIfInBounds 28 u28).setIfInBounds 26 v1).setIfInBounds 29 v2).setIfInBounds 5 v1).setIfInBounds 6 v2), defers := a.defers } w2) :
    (Code.region 7 ops48 true).wp Tryz.prog Q a U := by
  have hS0 : (U.drew.cell? ⟨qb, 0, none⟩ = some (.int .i64 T.op) ∧ U.drew.cell? ⟨qb, 1, none⟩ = some (.int .i64 T.n) ∧ U.drew.cell? ⟨qb, 2, none⟩ = some (.string T.text) ∧ U.drew.cell? ⟨qb, 3, none⟩ = some (.slice (some ⟨b, o, none⟩) T.kids.length kc) ∧ U.drew.cell? ⟨qb, 4, none⟩ = some (.slice pa T.pats.length pc)) ∧ (U.drew.cell? ⟨b, o + k * 5, none⟩ = some (.int .i64 oo) ∧ U.drew.cell? ⟨b, o + k * 5 + 1, none⟩ = some (.int .i64 nn) ∧ U.drew.cell? ⟨b, o + k * 5 + 2, none⟩ = some (.string tt) ∧ U.drew.cell? ⟨b, o + k * 5 + 3, none⟩ = some (.slice ka2 kn2 kc2) ∧ U.drew.cell? ⟨b, o + k * 5 + 4, none⟩ = some (.slice pa2 pn2 pc2)) := hS
  have hk' : (k : Int) < (T.kids.length : Int) := by omega
  have HS := Lib.hid hS; have HC1 := Lib.hid hc1; have HC2 := Lib.hid hc2; have HK := Lib.hid hK
  clear hS hc1 hc2 hK
  refine wp_region_z (fun w' => (w'.cell? ⟨qb, 0, none⟩ = some (.int .i64 T.op) ∧ w'.cell? ⟨qb, 1, none⟩ = some (.int .i64 T.n) ∧ w'.cell? ⟨qb, 2, none⟩ = some (.string T.text) ∧ w'.cell? ⟨qb, 3, none⟩ = some (.slice (some ⟨b, o, none⟩) T.kids.length kc) ∧ w'.cell? ⟨qb, 4, none⟩ = some (.slice pa T.pats.length pc)) ∧ (w'.cell? ⟨b, o + k * 5, none⟩ = some (.int .i64 oo) ∧ w'.cell? ⟨b, o + k * 5 + 1, none⟩ = some (.int .i64 nn) ∧ w'.cell? ⟨b, o + k * 5 + 2, none⟩ = some (.string tt) ∧ w'.cell? ⟨b, o + k * 5 + 3, none⟩ = some (.slice ka2 kn2 kc2) ∧ w'.cell? ⟨b, o + k * 5 + 4, none⟩ = some (.slice pa2 pn2 pc2))) 10 (by kernel_rfl) ?_
  refine wpAnyZ_take 0 (oi := { dst := some 21, op := Op.fieldAddr 32 (Operand.tmp 1) 3, type := 0, pos := "ref.go:366", after := #[], guard := none }) hS0 rfl (by kernel_rfl) (by kernel_rfl) (by kernel_rfl) (fun c a w h => hQ c _ _ a w h) (by kernel_rfl) rfl (by rfl) (by rintro w' ⟨⟨k0, k1, k2, k3, k4⟩, ⟨m0, m1, m2, m3, m4⟩⟩; go_simp <;> rfl) ?_
  refine wpAnyZ_take 1 (oi := { dst := some 22, op := Op.load 29 (Operand.tmp 21), type := 29, pos := "ref.go:366", after := #[{ on := 0, ground := Ground.data }], guard := none }) hS0 rfl (by kernel_rfl) (by kernel_rfl) (by kernel_rfl) (fun c a w h => hQ c _ _ a w h) (by kernel_rfl) rfl (by rfl) (by rintro w' ⟨⟨k0, k1, k2, k3, k4⟩, ⟨m0, m1, m2, m3, m4⟩⟩; go_simp <;> rfl) ?_
  refine wpAnyZ_take 2 (oi := { dst := some 23, op := Op.move (Operand.tmp 4), type := 3, pos := "ref.go:366", after := #[], guard := none }) hS0 rfl (by kernel_rfl) (by kernel_rfl) (by kernel_rfl) (fun c a w h => hQ c _ _ a w h) (by kernel_rfl) rfl (by rfl) (by rintro w' ⟨⟨k0, k1, k2, k3, k4⟩, ⟨m0, m1, m2, m3, m4⟩⟩; go_simp <;> rfl) ?_
  refine wpAnyZ_take 3 (oi := { dst := some 24, op := Op.indexAddr 29 (Operand.tmp 22) (Operand.tmp 23), type := 0, pos := "ref.go:366", after := #[{ on := 1, ground := Ground.data }, { on := 2, ground := Ground.data }], guard := none }) hS0 rfl (by kernel_rfl) (by kernel_rfl) (by kernel_rfl) (fun c a w h => hQ c _ _ a w h) (by kernel_rfl) rfl (by rfl) (by rintro w' ⟨⟨k0, k1, k2, k3, k4⟩, ⟨m0, m1, m2, m3, m4⟩⟩; go_simp <;> rfl) ?_
  refine wpAnyZ_take 4 (oi := { dst := some 25, op := Op.load 32 (Operand.tmp 24), type := 32, pos := "ref.go:366", after := #[{ on := 3, ground := Ground.data }], guard := none }) hS0 rfl (by kernel_rfl) (by kernel_rfl) (by kernel_rfl) (fun c a w h => hQ c _ _ a w h) (by kernel_rfl) rfl (by rfl) (by rintro w' ⟨⟨k0, k1, k2, k3, k4⟩, ⟨m0, m1, m2, m3, m4⟩⟩; go_simp <;> rfl) ?_
  refine wpAnyZ_take 6 (oi := { dst := some 27, op := Op.load 32 (Operand.tmp 1), type := 32, pos := "ref.go:366", after := #[], guard := none }) hS0 rfl (by kernel_rfl) (by kernel_rfl) (by kernel_rfl) (fun c a w h => hQ c _ _ a w h) (by kernel_rfl) rfl (by rfl) (by rintro w' ⟨⟨k0, k1, k2, k3, k4⟩, ⟨m0, m1, m2, m3, m4⟩⟩; go_simp <;> rfl) ?_
  refine wpAnyZ_take 7 (oi := { dst := some 28, op := Op.move (Operand.tmp 4), type := 3, pos := "ref.go:366", after := #[], guard := none }) hS0 rfl (by kernel_rfl) (by kernel_rfl) (by kernel_rfl) (fun c a w h => hQ c _ _ a w h) (by kernel_rfl) rfl (by rfl) (by rintro w' ⟨⟨k0, k1, k2, k3, k4⟩, ⟨m0, m1, m2, m3, m4⟩⟩; go_simp <;> rfl) ?_
  clear hS0
  refine wpAnyZ_one 5 (o := { dst := some 26, op := Op.call { callee := Callee.value (Operand.func 48), args := #[Operand.tmp 25], argTypes := #[32] }, type := 22, pos := "ref.go:366", after := #[{ on := 4, ground := Ground.data }], guard := none }) (by kernel_rfl) rfl fun KK hKK => ?_
  go_simp
  refine HC1.out.mono ?_
  rintro e w1 ⟨⟨v1, rfl, hr1⟩, hb1⟩
  have HB1 := Lib.hid hb1; have HR1 := Lib.hid hr1
  clear hb1 hr1
  refine hKK.out _ _ (fun _ => ⟨⟨(HB1.out.cell (p := ⟨qb, 0, none⟩) hqb).trans HS.out.1.1, (HB1.out.cell (p := ⟨qb, 1, none⟩) hqb).trans HS.out.1.2.1, (HB1.out.cell (p := ⟨qb, 2, none⟩) hqb).trans HS.out.1.2.2.1, (HB1.out.cell (p := ⟨qb, 3, none⟩) hqb).trans HS.out.1.2.2.2.1, (HB1.out.cell (p := ⟨qb, 4, none⟩) hqb).trans HS.out.1.2.2.2.2⟩, ⟨(HB1.out.cell (p := ⟨b, _, none⟩) hbb).trans HS.out.2.1, (HB1.out.cell (p := ⟨b, _, none⟩) hbb).trans HS.out.2.2.1, (HB1.out.cell (p := ⟨b, _, none⟩) hbb).trans HS.out.2.2.2.1, (HB1.out.cell (p := ⟨b, _, none⟩) hbb).trans HS.out.2.2.2.2.1, (HB1.out.cell (p := ⟨b, _, none⟩) hbb).trans HS.out.2.2.2.2.2⟩⟩) ?_
  clear hKK KK
  refine wpAnyZ_one 8 (o := { dst := some 29, op := Op.call { callee := Callee.value (Operand.func 106), args := #[Operand.tmp 27, Operand.tmp 28], argTypes := #[32, 3] }, type := 22, pos := "ref.go:366", after := #[{ on := 6, ground := Ground.data }, { on := 7, ground := Ground.data }, { on := 5, ground := Ground.chain }], guard := none }) (by kernel_rfl) rfl fun KK hKK => ?_
  have HC2' := Lib.hid (HC2.out w1 HB1.out)
  go_simp
  refine HC2'.out.mono ?_
  rintro e w2 ⟨⟨v2, rfl, hr2⟩, hb2⟩
  have HB2 := Lib.hid hb2; have HR2 := Lib.hid hr2; have HBU := Lib.hid (HB1.out.trans (hb2.mono HB1.out.size))
  clear hb2 hr2
  refine hKK.out _ _ (fun _ => ⟨⟨(HBU.out.cell (p := ⟨qb, 0, none⟩) hqb).trans HS.out.1.1, (HBU.out.cell (p := ⟨qb, 1, none⟩) hqb).trans HS.out.1.2.1, (HBU.out.cell (p := ⟨qb, 2, none⟩) hqb).trans HS.out.1.2.2.1, (HBU.out.cell (p := ⟨qb, 3, none⟩) hqb).trans HS.out.1.2.2.2.1, (HBU.out.cell (p := ⟨qb, 4, none⟩) hqb).trans HS.out.1.2.2.2.2⟩, ⟨(HBU.out.cell (p := ⟨b, _, none⟩) hbb).trans HS.out.2.1, (HBU.out.cell (p := ⟨b, _, none⟩) hbb).trans HS.out.2.2.1, (HBU.out.cell (p := ⟨b, _, none⟩) hbb).trans HS.out.2.2.2.1, (HBU.out.cell (p := ⟨b, _, none⟩) hbb).trans HS.out.2.2.2.2.1, (HBU.out.cell (p := ⟨b, _, none⟩) hbb).trans HS.out.2.2.2.2.2⟩⟩) ?_
  clear hKK KK
  refine wpAnyZ_one 9 (o := { dst := some 5, op := Op.assign (Operand.tmp 26), type := 22, pos := "ref.go:366", after := #[{ on := 5, ground := Ground.data }, { on := 8, ground := Ground.chain }, { on := 0, ground := Ground.phase }, { on := 1, ground := Ground.phase }, { on := 2, ground := Ground.phase }, { on := 3, ground := Ground.phase }, { on := 4, ground := Ground.phase }, { on := 5, ground := Ground.phase }, { on := 6, ground := Ground.textOnly Departure.lateStores }, { on := 7, ground := Ground.textOnly Departure.lateStores }, { on := 8, ground := Ground.textOnly Departure.lateStoresUnsure }], guard := none }) (by kernel_rfl) rfl fun KK hKK => ?_
  go_simp
  refine hKK.out _ _ (fun _ => ⟨⟨(HBU.out.cell (p := ⟨qb, 0, none⟩) hqb).trans HS.out.1.1, (HBU.out.cell (p := ⟨qb, 1, none⟩) hqb).trans HS.out.1.2.1, (HBU.out.cell (p := ⟨qb, 2, none⟩) hqb).trans HS.out.1.2.2.1, (HBU.out.cell (p := ⟨qb, 3, none⟩) hqb).trans HS.out.1.2.2.2.1, (HBU.out.cell (p := ⟨qb, 4, none⟩) hqb).trans HS.out.1.2.2.2.2⟩, ⟨(HBU.out.cell (p := ⟨b, _, none⟩) hbb).trans HS.out.2.1, (HBU.out.cell (p := ⟨b, _, none⟩) hbb).trans HS.out.2.2.1, (HBU.out.cell (p := ⟨b, _, none⟩) hbb).trans HS.out.2.2.2.1, (HBU.out.cell (p := ⟨b, _, none⟩) hbb).trans HS.out.2.2.2.2.1, (HBU.out.cell (p := ⟨b, _, none⟩) hbb).trans HS.out.2.2.2.2.2⟩⟩) ?_
  clear hKK KK
  refine wpAnyZ_one 10 (o := { dst := some 6, op := Op.assign (Operand.tmp 29), type := 22, pos := "ref.go:366", after := #[{ on := 8, ground := Ground.data }, { on := 9, ground := Ground.chain }, { on := 0, ground := Ground.phase }, { on := 1, ground := Ground.phase }, { on := 2, ground := Ground.phase }, { on := 3, ground := Ground.phase }, { on := 4, ground := Ground.phase }, { on := 5, ground := Ground.phase }, { on := 6, ground := Ground.phase }, { on := 7, ground := Ground.phase }, { on := 8, ground := Ground.phase }, { on := 9, ground := Ground.phase }], guard := none }) (by kernel_rfl) rfl fun KK hKK => ?_
  go_simp
  refine hKK.out _ _ (fun h => absurd rfl h) ?_
  refine wpAnyZ_done (by kernel_rfl) ?_ _
  exact HK.out _ _ _ _ _ _ _ v1 v2 w1 w2 HR1.out HR2.out HB1.out HB2.out

end Go.Proofs.YtjpahjfjpkbcnaaGreat

/- The specification's Free. -/
namespace Go.Proofs.YtjpahjfjpkbcnaaGreat
open Go.Proofs Go.RowKit

def addL (b : List ByteArray) : List ByteArray → List ByteArray → List ByteArray
  | [], out => out
  | x :: xs, out => addL b xs (if hasB b x then out else putL x out)
mutual
def rfree : Tm → List ByteArray
  | .mk op n t ks ps => if op = 4 then [t] else rfreeK (boundL (.mk op n t ks ps)) ks 0 []
def rfreeK (bnd : Nat → List ByteArray) : List Tm → Nat → List ByteArray → List ByteArray
  | [], _, out => out
  | k :: ks, i, out => rfreeK bnd ks (i + 1) (addL (bnd i) (rfree k) out)
end
theorem putL_len (s : ByteArray) : ∀ l : List ByteArray, (putL s l).length ≤ l.length + 1
  | [] => Nat.le_refl _
  | x :: xs => by
    unfold putL
    have := putL_len s xs
    split
    · simp; omega
    · split <;> simp
theorem addL_len (b : List ByteArray) : ∀ (xs out : List ByteArray), (addL b xs out).length ≤ out.length + xs.length
  | [], out => by unfold addL; simp
  | x :: xs, out => by
    unfold addL
    have h1 := addL_len b xs (if hasB b x then out else putL x out)
    have h2 : (if hasB b x then out else putL x out).length ≤ out.length + 1 := by
      split
      · omega
      · exact putL_len x out
    simp
    omega
mutual
theorem rfree_len : ∀ (T : Tm) (d : Int), (rfree T).length ≤ (partsM d T).length
  | .mk op n t ks ps, d => by
    unfold rfree partsM
    rw [List.length_cons]
    split
    · simp
    · have := rfreeK_len (boundL (.mk op n t ks ps)) ks 0 [] (d + 1)
      simp at this
      omega
theorem rfreeK_len (bnd : Nat → List ByteArray) : ∀ (ks : List Tm) (i : Nat) (out : List ByteArray) (d : Int), (rfreeK bnd ks i out).length ≤ out.length + (partssM d ks).length
  | [], i, out, d => by unfold rfreeK; omega
  | k :: ks, i, out, d => by
    unfold rfreeK partssM
    have h1 := rfreeK_len bnd ks (i + 1) (addL (bnd i) (rfree k) out) d
    have h2 := addL_len (bnd i) (rfree k) out
    have h3 := rfree_len k d
    rw [List.length_append]
    omega
end
theorem rfreeK_drop (bnd : Nat → List ByteArray) (ks : List Tm) (k : Nat) (out : List ByteArray) (h : k < ks.length) : rfreeK bnd (ks.drop k) k out = rfreeK bnd (ks.drop (k + 1)) (k + 1) (addL (bnd k) (rfree ks[k]) out) := by
  rw [List.drop_eq_getElem_cons h]
  conv => lhs; unfold rfreeK
theorem addL_drop (b xs out : List ByteArray) (k : Nat) (h : k < xs.length) : addL b (xs.drop k) out = addL b (xs.drop (k + 1)) (if hasB b xs[k] then out else putL xs[k] out) := by
  rw [List.drop_eq_getElem_cons h]
  rfl
theorem partssM_drop (ks : List Tm) (k : Nat) (d : Int) (h : k < ks.length) : (partssM d (ks.drop k)).length = (partsM d ks[k]).length + (partssM d (ks.drop (k + 1))).length := by
  rw [List.drop_eq_getElem_cons h]
  conv => lhs; unfold partssM
  rw [List.length_append]

mutual
theorem partsM_len : ∀ (T : Tm) (d d' : Int), (partsM d T).length = (partsM d' T).length
  | .mk op n t ks ps, d, d' => by
    unfold partsM
    rw [List.length_cons, List.length_cons, partssM_len ks (d + 1) (d' + 1)]
theorem partssM_len : ∀ (ts : List Tm) (d d' : Int), (partssM d ts).length = (partssM d' ts).length
  | [], _, _ => rfl
  | t :: ts, d, d' => by
    unfold partssM
    rw [List.length_append, List.length_append, partsM_len t d d', partssM_len ts d d']
end

mutual
/-- What the specification's walks ask of a term's nodes. -/
def okF : Tm → Prop
  | .mk op _ _ ks ps => (op = 15 → ks.length ≤ ps.length + 1) ∧ ks.length ≤ 900000 ∧ (∀ p ∈ ps, patsB p = true ∧ (partsP 1 p).length ≤ 1000000) ∧ okFs ks
def okFs : List Tm → Prop
  | [] => True
  | k :: ks => okF k ∧ okFs ks
end
theorem okFs_get : ∀ {ks : List Tm}, okFs ks → ∀ (k : Nat) (h : k < ks.length), okF ks[k]
  | p :: ps, h, 0, _ => by unfold okFs at h; exact h.1
  | p :: ps, h, k + 1, hk => by unfold okFs at h; exact okFs_get h.2 k (by simpa using hk)

set_option maxHeartbeats 4000000 in
set_option maxRecDepth 100000 in
theorem refFree_any (T : Tm) : ∀ (v : Value) (w : World), TmAt w.heap.size w T v → okF T → (partsM 1 T).length ≤ 100000 →
    Calls Tryz.prog 48 #[v] w fun e w' => (∃ v', e = .returned v' ∧ SlIn (fun b => b < w'.heap.size) v' (rfree T).length fun b o => StrsAt w' (rfree T) b o) ∧ Below w.heap.size w w' := by
  induction hT : SizeOf.sizeOf T using Nat.strongRecOn generalizing T with
  | _ m ih =>
  subst hT
  intro v w hv hok hlen
  have HIH := Lib.hid ih; clear ih
  cases T with
  | mk op n text kids pats =>
  have hv' := hv
  unfold TmAt at hv
  obtain ⟨kv, pv, rfl, htx, hk, hp⟩ := hv
  obtain ⟨a, cap, rfl, hcap, hlc, hka⟩ := hk.split
  obtain ⟨a', cap', rfl, -⟩ := hp.split
  have hok' := hok
  unfold okF at hok
  have hbx := heap_alloc_new w (.cells #[.int .i64 op, .int .i64 n, .string text, .slice a kids.length cap, .slice a' pats.length cap'] 32)
  have hb0 := (Below.refl w.heap.size w).alloc (Nat.le_refl _) (.cells #[.int .i64 op, .int .i64 n, .string text, .slice a kids.length cap, .slice a' pats.length cap'] 32)
  have hszA : (w.alloc (.cells #[.int .i64 op, .int .i64 n, .string text, .slice a kids.length cap, .slice a' pats.length cap'] 32)).heap.size = w.heap.size + 1 := by simp
  unfold maxLen at hcap
  by_cases h4 : op = 4
  · have hr : rfree (.mk op n text kids pats) = [text] := by conv => lhs; unfold rfree; rw [if_pos h4]
    have hend : (∃ v', Ending.returned (.slice (some ⟨w.heap.size + 1, 0, none⟩) 1 1) = Ending.returned v' ∧ SlIn (fun b => b < ((w.alloc (.cells #[.int .i64 op, .int .i64 n, .string text, .slice a kids.length cap, .slice a' pats.length cap'] 32)).alloc (.cells #[.string text] 9)).heap.size) v' [text].length fun b o => StrsAt ((w.alloc (.cells #[.int .i64 op, .int .i64 n, .string text, .slice a kids.length cap, .slice a' pats.length cap'] 32)).alloc (.cells #[.string text] 9)) [text] b o) := by
      have hc := heap_alloc_new (w.alloc (.cells #[.int .i64 op, .int .i64 n, .string text, .slice a kids.length cap, .slice a' pats.length cap'] 32)) (.cells #[.string text] 9)
      rw [hszA] at hc
      exact ⟨_, rfl, .inr ⟨w.heap.size + 1, 0, 1, rfl, Nat.le_refl _, by unfold maxLen; omega, by simp, ⟨cell_box hc, htx⟩, trivial⟩⟩
    rw [hr]
    have HEND := Lib.hid hend; have HB := Lib.hid (hb0.alloc hb0.size (.cells #[.string text] 9))
    subst h4
    clear hk hp hka hbx hb0 hr HIH hend hok hok' hv' hlen hszA
    go_enter Tryz.func48, Tryz.ntmps48
    go_wp2
    go_ret
    exact ⟨HEND.out, HB.out⟩
  have hr : rfree (.mk op n text kids pats) = rfreeK (boundL (.mk op n text kids pats)) kids 0 [] := by conv => lhs; unfold rfree; rw [if_neg h4]
  have hln : (partssM 2 kids).length ≤ 100000 := by
    unfold partsM at hlen
    rw [List.length_cons] at hlen
    have e : (1 : Int) + 1 = 2 := rfl
    rw [e] at hlen
    omega
  have HR := Lib.hid hr; have HOK := Lib.hid hok; have HLN := Lib.hid hln; have HV := Lib.hid hv'
  have HKA := Lib.hid hka; have HBX := Lib.hid hbx; have HB0 := Lib.hid hb0; have HSZ := Lib.hid hszA
  clear hk hp hka hbx hb0 hr hok hok' hv' hlen hszA hln
  have h4' : (op == 4) = false := by simpa using h4
  go_enter Tryz.func48, Tryz.ntmps48
  go_wp2
  generalize (w.alloc (.cells #[.int .i64 op, .int .i64 n, .string text, .slice a kids.length cap, .slice a' pats.length cap'] 32)) = W at *
  go_loopw [3, 4] (fun vo i wr => ∃ (k : Nat) (out : List ByteArray), k ≤ kids.length ∧ i = .int .i64 k ∧ (SlIn (fun b => b < wr.heap.size) vo out.length fun b o => StrsAt wr out b o) ∧ Hid (rfree (.mk op n text kids pats) = rfreeK (boundL (.mk op n text kids pats)) (kids.drop k) k out) ∧ out.length + (partssM 2 (kids.drop k)).length ≤ 100000 ∧ Below (w.heap.size + 1) W wr) (fun _ i _ => kids.length - (intOf i).toNat)
  case atStart => exact ⟨0, [], Nat.zero_le _, rfl, .inl ⟨rfl, rfl⟩, HR.out, by simpa using HLN.out, Below.refl _ _⟩
  case round =>
    obtain ⟨k, out, hk, rfl, hvo, HP, hol, hB⟩ := hrel
    have hbx := bget hB HBX.out (by omega)
    have hbw : Below w.heap.size w wr := HB0.out.trans (hB.mono (by omega))
    have hsz : w.heap.size + 1 ≤ wr.heap.size := by have := hB.size; have := HSZ.out; omega
    obtain ⟨oa, oc, rfl⟩ := hvo.split
    obtain ⟨c0, c1, c2, c3, c4⟩ := cells5 hbx
    by_cases hlt : k < kids.length
    · have hlt' : (k : Int) < (kids.length : Int) := by omega
      obtain ⟨b, o, rfl, hbn, hps⟩ := HKA.out (by omega)
      obtain ⟨e0, e1, e2, e3, e4, g0, g1, g2, g3, g4, ht⟩ := TmsAt.get kids b o hps k hlt
      obtain ⟨oo, nn, tt, ka, kn, kc, pa, pn, pc, rfl, rfl, rfl, rfl, rfl⟩ := ht.shape
      have q0 := (hbw.cell (p := ⟨b, _, none⟩) hbn).trans g0
      have q1 := (hbw.cell (p := ⟨b, _, none⟩) hbn).trans g1
      have q2 := (hbw.cell (p := ⟨b, _, none⟩) hbn).trans g2
      have q3 := (hbw.cell (p := ⟨b, _, none⟩) hbn).trans g3
      have q4 := (hbw.cell (p := ⟨b, _, none⟩) hbn).trans g4
      have hbd : Below w.heap.size w wr.drew := hbw.trans (below_drew _ _)
      have hpd := partssM_drop kids k 2 hlt
      have hd12 : (partsM 1 kids[k]).length = (partsM 2 kids[k]).length := partsM_len _ _ _
      have hcl := HIH.out _ (kid_lt k hlt) kids[k] rfl _ wr.drew (TmAt.keep hbd hbd.size _ _ ht) (okFs_get HOK.out.2.2.2 k hlt) (by omega)
      have hc1 : Calls Tryz.prog 48 #[.agg #[.int .i64 oo, .int .i64 nn, .string tt, .slice ka kn kc, .slice pa pn pc]] wr.drew fun e w' => (∃ v1, e = .returned v1 ∧ SlIn (fun x => x < w'.heap.size) v1 (rfree kids[k]).length fun b o => StrsAt w' (rfree kids[k]) b o) ∧ Below wr.heap.size wr w' := hcl.mono fun e w' ⟨h1, h2⟩ => ⟨h1, (below_drew _ _).trans h2⟩
      have hc2 : ∀ w1, Below wr.heap.size wr w1 → Calls Tryz.prog 106 #[.agg #[.int .i64 (Tm.mk op n text kids pats).op, .int .i64 (Tm.mk op n text kids pats).n, .string (Tm.mk op n text kids pats).text, .slice (some ⟨b, o, none⟩) (Tm.mk op n text kids pats).kids.length cap, .slice a' (Tm.mk op n text kids pats).pats.length cap'], .int .i64 k] w1 fun e w' => (∃ v2, e = .returned v2 ∧ SlIn (Fresh w1 w') v2 (boundL (.mk op n text kids pats) k).length fun b o => StrsAt w' (boundL (.mk op n text kids pats) k) b o) ∧ Below w1.heap.size w1 w' := fun w1 h1 => by
        have hw1 : Below w.heap.size w w1 := hbw.trans (h1.mono hbw.size)
        exact Binds_any (.mk op n text kids pats) k _ w1 (TmAt.keep hw1 hw1.size _ _ HV.out) (by have := HOK.out.2.1; omega) (fun h h0 => by have h1 : kids.length ≤ pats.length + 1 := HOK.out.1 h; show k - 1 < pats.length; omega) (fun p hp => HOK.out.2.2.1 p hp)
      have HC1 := Lib.hid hc1; have HC2 := Lib.hid hc2; have HB := Lib.hid hB; have HVO := Lib.hid hvo; have HBW := Lib.hid hbw; have HBXR := Lib.hid hbx
      clear hcl hc1 hc2 hB hvo hbw hbd g0 g1 g2 g3 g4 ht hps hbx
      go_upto_region 7 with fail
      refine reg48 (T := .mk op n text kids pats) (qb := w.heap.size) (b := b) (o := o) (k := k) (R1 := fun v1 w' => SlIn (fun x => x < w'.heap.size) v1 (rfree kids[k]).length fun b o => StrsAt w' (rfree kids[k]) b o) (R2 := fun v2 w1 w' => SlIn (Fresh w1 w') v2 (boundL (.mk op n text kids pats) k).length fun b o => StrsAt w' (boundL (.mk op n text kids pats) k) b o) rfl rfl rfl (fun _ _ _ _ _ h => h) ⟨⟨c0, c1, c2, c3, c4⟩, ⟨q0, q1, q2, q3, q4⟩⟩ (by omega) (by omega) hlt HC1.out HC2.out ?_
      intro u21 u22 u23 u24 u25 u27 u28 v1 v2 w1 w2 hr1 hr2 hb1 hb2
      simp only [List.setIfInBounds_toArray, List.set_cons_zero, List.set_cons_succ]
      have hv1 : SlIn (fun x => x < w2.heap.size) v1 (rfree kids[k]).length fun b o => StrsAt w2 (rfree kids[k]) b o := hr1.mono (fun b h => Nat.lt_of_lt_of_le h hb2.size) fun b o h hs => StrsAt.keep hb2 _ _ _ h hs
      have hv2 : SlIn (fun x => x < w2.heap.size) v2 (boundL (.mk op n text kids pats) k).length fun b o => StrsAt w2 (boundL (.mk op n text kids pats) k) b o := hr2.mono (fun b h => h.2) fun _ _ _ h => h
      have hb12 : Below wr.heap.size wr w2 := hb1.trans (hb2.mono hb1.size)
      have hvo2 : SlIn (fun x => x < w2.heap.size) (.slice oa out.length oc) out.length fun b o => StrsAt w2 out b o := HVO.out.mono (fun b h => Nat.lt_of_lt_of_le h hb12.size) fun b o h hs => StrsAt.keep hb12 _ _ _ h hs
      have hbW2 : Below (w.heap.size + 1) W w2 := HB.out.trans (hb12.mono hsz)
      have hsz2 := hbW2.size
      have hlx := rfree_len kids[k] 2
      have hnx : rfree (.mk op n text kids pats) = rfreeK (boundL (.mk op n text kids pats)) (kids.drop (k + 1)) (k + 1) (addL (boundL (.mk op n text kids pats) k) (rfree kids[k]) out) := HP.out.trans (rfreeK_drop _ _ _ _ hlt)
      have HNX := Lib.hid hnx
      generalize rfree kids[k] = xs at *
      generalize boundL (.mk op n text kids pats) k = bs at *
      obtain ⟨xa, xc, rfl⟩ := hv1.split
      obtain ⟨ba, bc, rfl⟩ := hv2.split
      have HV1 := Lib.hid hv1; have HV2 := Lib.hid hv2; have HVO2 := Lib.hid hvo2; have HBW2 := Lib.hid hbW2
      clear hv1 hv2 hvo2 hbW2 hr1 hr2 hb1 hb2 hb12 hnx c0 c1 c2 c3 c4 q0 q1 q2 q3 q4 HC1 HC2
      go_wp2
      generalize wr = wc at *
      go_loopw [3, 7] (fun vo i wr => ∃ (j : Nat) (out' : List ByteArray), j ≤ xs.length ∧ i = .int .i64 j ∧ (SlIn (fun b => b < wr.heap.size) vo out'.length fun b o => StrsAt wr out' b o) ∧ Hid (addL bs xs out = addL bs (xs.drop j) out') ∧ out'.length ≤ out.length + j ∧ Below w2.heap.size w2 wr) (fun _ i _ => xs.length - (intOf i).toNat)
      case atStart => exact ⟨0, out, Nat.zero_le _, rfl, HVO2.out, rfl, Nat.le_refl _, Below.refl _ _⟩
      case round =>
        obtain ⟨j, out', hj, rfl, hvj, HPj, holj, hBj⟩ := hrel
        obtain ⟨ja, jc, rfl⟩ := hvj.split
        have hsj := hBj.size
        by_cases hltj : j < xs.length
        · have hltj' : (j : Int) < (xs.length : Int) := by omega
          have h1 := HV1.out
          rcases h1 with ⟨h0, -⟩ | ⟨xb, xo, xcap, hx1, hx2, hx3, hx4, hx5⟩
          · omega
          cases hx1
          obtain ⟨hg, hgs⟩ := StrsAt.get xs xb xo hx5 j hltj
          have hgj := (hBj.cell (p := ⟨xb, xo + j, none⟩) hx4).trans hg
          have hbs : SsAt wr.heap.size wr bs (.slice ba bs.length bc) := (HV2.out.mono (B' := fun b => b < w2.heap.size) (R' := fun b o => StrsAt wr bs b o) (fun b h => h) fun b o h hs => StrsAt.keep hBj _ _ _ h hs).to (fun b h => Nat.lt_of_lt_of_le h hsj) fun _ _ h => h
          have hcl := Has_any bs _ xs[j] wr hbs
          have hd := addL_drop bs xs out' j hltj
          cases hx : hasB bs xs[j] with
          | true =>
            rw [hx] at hcl hd
            have HC := Lib.hid hcl; have HD := Lib.hid hd; have HVJ := Lib.hid hvj; have HBJ := Lib.hid hBj
            clear hcl hd hvj hBj hx hbs hg hx5
            go_wp2_with fail
            refine HC.out.mono ?_
            rintro e w3 ⟨rfl, hb3⟩
            have hvj3 : SlIn (fun b => b < w3.heap.size) (.slice ja out'.length jc) out'.length fun b o => StrsAt w3 out' b o := HVJ.out.mono (fun b h => Nat.lt_of_lt_of_le h hb3.size) fun b o h hs => StrsAt.keep hb3 _ _ _ h hs
            have HVJ3 := Lib.hid hvj3; have HB3 := Lib.hid (HBJ.out.trans (hb3.mono hsj))
            clear hvj3 hb3 HC hgj
            go_wp2
            go_roundw
            case rel => exact ⟨j + 1, out', by omega, by go_num, HVJ3.out, by unfold Hid; rw [HPj.out, HD.out]; simp, by omega, HB3.out⟩
            case measure => simp [intOf]; omega
          | false =>
            rw [hx] at hcl hd
            have HC := Lib.hid hcl; have HD := Lib.hid hd; have HVJ := Lib.hid hvj; have HBJ := Lib.hid hBj
            have HX5 := Lib.hid hx5
            clear hcl hd hvj hBj hx hbs hg hx5
            go_wp2_with fail
            refine HC.out.mono ?_
            rintro e w3 ⟨rfl, hb3⟩
            have hvj3 : SlIn (fun b => b < w3.heap.size) (.slice ja out'.length jc) out'.length fun b o => StrsAt w3 out' b o := HVJ.out.mono (fun b h => Nat.lt_of_lt_of_le h hb3.size) fun b o h hs => StrsAt.keep hb3 _ _ _ h hs
            have hB3 : Below w2.heap.size w2 w3 := HBJ.out.trans (hb3.mono hsj)
            have hgj3 := (hB3.cell (p := ⟨xb, xo + j, none⟩) hx4).trans (StrsAt.get xs xb xo HX5.out j hltj).1
            have hcp := put_any out' xs[j] _ w3 hvj3 hgs (by omega)
            have hpl := putL_len xs[j] out'
            have HCP := Lib.hid hcp; have HB3 := Lib.hid hB3
            have hs3 := hB3.size
            clear hvj3 hb3 HC hgj hcp hB3
            go_wp2_with fail
            refine HCP.out.mono ?_
            rintro e w4 ⟨⟨v4, rfl, hv4⟩, hb4⟩
            have HV4 := Lib.hid hv4; have HB4 := Lib.hid (HB3.out.trans (hb4.mono hs3))
            clear hv4 hb4 HCP hgj3
            go_wp2
            go_roundw
            case rel => exact ⟨j + 1, putL xs[j] out', by omega, by go_num, HV4.out, by unfold Hid; rw [HPj.out, HD.out]; rfl, by omega, HB4.out⟩
            case measure => simp [intOf]; omega
        · have hltj' : ¬ ((j : Int) < (xs.length : Int)) := by omega
          have hend : addL bs xs out = out' := by
            rw [HPj.out, List.drop_eq_nil_of_le (by omega)]
            rfl
          have HEND := Lib.hid hend; have HVJ := Lib.hid hvj
          have HB4 := Lib.hid (HBW2.out.trans (hBj.mono (by have := HSZ.out; omega)))
          clear hend hvj hBj
          go_wp2
          go_roundw
          case rel => exact ⟨k + 1, out', by omega, by go_num, HVJ.out, by unfold Hid; rw [HNX.out, HEND.out], by omega, HB4.out⟩
          case measure => simp [intOf]; omega
    · have hlt' : ¬ ((k : Int) < (kids.length : Int)) := by omega
      have hend : rfree (.mk op n text kids pats) = out := by
        rw [HP.out, List.drop_eq_nil_of_le (by omega)]
        unfold rfreeK; rfl
      have HEND := Lib.hid hend; have HBW := Lib.hid hbw; have HVO := Lib.hid hvo
      clear hend hbw hbx hvo
      go_wp2
      go_ret
      rw [HEND.out]
      exact ⟨⟨_, rfl, HVO.out⟩, HBW.out⟩

end Go.Proofs.YtjpahjfjpkbcnaaGreat

/- The free names are the same for the specification and for the program. -/
namespace Go.Proofs.YtjpahjfjpkbcnaaGreat
open Go.Proofs Go.RowKit

theorem ltB_eq (a b : ByteArray) : ltB a b = decide (a.toList < b.toList) := Go.Proofs.bytesLess_eq _ _
abbrev SortedL (l : List ByteArray) : Prop := l.Pairwise fun a b => a.toList < b.toList
theorem list_lt_of {a b : List UInt8} (h : ¬ a < b) (h2 : a ≠ b) : b < a := by
  by_cases h3 : b < a
  · exact h3
  · exact absurd (List.le_antisymm (List.not_lt.1 h3) (List.not_lt.1 h)) h2
theorem mem_putL (s : ByteArray) (x : List UInt8) : ∀ l : List ByteArray, (∃ y ∈ putL s l, y.toList = x) ↔ x = s.toList ∨ ∃ y ∈ l, y.toList = x
  | [] => by simp [putL, eq_comm]
  | z :: l => by
    have ih := mem_putL s x l
    unfold putL
    split
    · simp only [List.mem_cons, exists_eq_or_imp, ih]
      constructor
      · rintro (h | h | h)
        · exact .inr (.inl h)
        · exact .inl h
        · exact .inr (.inr h)
      · rintro (h | h | h)
        · exact .inr (.inl h)
        · exact .inl h
        · exact .inr (.inr h)
    · split
      · rename_i h
        have he := eq_of_beq h
        simp only [List.mem_cons, exists_eq_or_imp]
        constructor
        · exact .inr
        · rintro (h | h)
          · exact .inl (by rw [he, h])
          · exact h
      · simp only [List.mem_cons, exists_eq_or_imp]
        constructor
        · rintro (h | h)
          · exact .inl h.symm
          · exact .inr h
        · rintro (h | h)
          · exact .inl h.symm
          · exact .inr h
theorem putL_sorted (s : ByteArray) : ∀ l : List ByteArray, SortedL l → SortedL (putL s l)
  | [], _ => by unfold putL; exact List.pairwise_singleton _ _
  | z :: l, h => by
    obtain ⟨h1, h2⟩ := List.pairwise_cons.1 h
    unfold putL
    split
    · rename_i hz
      rw [ltB_eq] at hz
      refine List.pairwise_cons.2 ⟨fun y hy => ?_, putL_sorted s l h2⟩
      rcases (mem_putL s y.toList l).1 ⟨y, hy, rfl⟩ with h | ⟨y', hy', he⟩
      · rw [h]; exact of_decide_eq_true hz
      · rw [← he]; exact h1 y' hy'
    · rename_i hz
      rw [ltB_eq] at hz
      split
      · exact h
      · rename_i hne
        have hlt : s.toList < z.toList := list_lt_of (by simpa using hz) (by simpa using hne)
        refine List.pairwise_cons.2 ⟨fun y hy => ?_, h⟩
        rcases List.mem_cons.1 hy with rfl | hy
        · exact hlt
        · exact List.lt_trans hlt (h1 y hy)
theorem mem_addL (b : List ByteArray) (x : List UInt8) : ∀ (xs out : List ByteArray), (∃ y ∈ addL b xs out, y.toList = x) ↔ (∃ y ∈ out, y.toList = x) ∨ ((∃ y ∈ xs, y.toList = x) ∧ inL b x = false)
  | [], out => by simp [addL]
  | z :: xs, out => by
    unfold addL
    rw [mem_addL b x xs]
    have hb : hasB b z = inL b z.toList := rfl
    cases hz : hasB b z with
    | true =>
      simp only [if_true, List.mem_cons, exists_eq_or_imp]
      constructor
      · rintro (h | ⟨h1, h2⟩)
        · exact .inl h
        · exact .inr ⟨.inr h1, h2⟩
      · rintro (h | ⟨h1 | h1, h2⟩)
        · exact .inl h
        · rw [hb, h1, h2] at hz; cases hz
        · exact .inr ⟨h1, h2⟩
    | false =>
      rw [if_neg (by simp), mem_putL]
      simp only [List.mem_cons, exists_eq_or_imp]
      rw [hb] at hz
      constructor
      · rintro ((h | h) | ⟨h1, h2⟩)
        · exact .inr ⟨.inl h.symm, by rw [h]; exact hz⟩
        · exact .inl h
        · exact .inr ⟨.inr h1, h2⟩
      · rintro (h | ⟨h1 | h1, h2⟩)
        · exact .inl (.inr h)
        · exact .inl (.inl h1.symm)
        · exact .inr ⟨h1, h2⟩
theorem addL_sorted (b : List ByteArray) : ∀ (xs out : List ByteArray), SortedL out → SortedL (addL b xs out)
  | [], _, h => h
  | z :: xs, out, h => by
    unfold addL
    refine addL_sorted b xs _ ?_
    split
    · exact h
    · exact putL_sorted z out h
theorem rfreeK_sorted (bnd : Nat → List ByteArray) : ∀ (ks : List Tm) (i : Nat) (out : List ByteArray), SortedL out → SortedL (rfreeK bnd ks i out)
  | [], _, _, h => h
  | k :: ks, i, out, h => by
    unfold rfreeK
    exact rfreeK_sorted bnd ks (i + 1) _ (addL_sorted _ _ _ h)
theorem rfree_sorted (T : Tm) : SortedL (rfree T) := by
  cases T with
  | mk op n t ks ps =>
    unfold rfree
    split
    · exact List.pairwise_singleton _ _
    · exact rfreeK_sorted _ ks 0 [] List.Pairwise.nil

mutual
theorem mem_frees : ∀ (T : Tm) (bd : List UInt8 → Bool) (x : List UInt8), x ∈ frees bd T ↔ x ∈ frees (fun _ => false) T ∧ bd x = false
  | .mk op n t ks ps, bd, x => by
    unfold frees
    rw [List.mem_append, List.mem_append, mem_freesK _ ks bd 0 x]
    constructor
    · rintro (h | h)
      · split at h
        · rename_i h4
          have hx : x = t.toList := by simpa using h
          exact ⟨.inl (by rw [if_pos ⟨h4.1, rfl⟩]; exact h), by rw [hx]; exact h4.2⟩
        · cases h
      · exact ⟨.inr h.1, h.2⟩
    · rintro ⟨h | h, hb⟩
      · split at h
        · rename_i h4
          have hx : x = t.toList := by simpa using h
          exact .inl (by rw [if_pos ⟨h4.1, by rw [← hx]; exact hb⟩]; exact h)
        · cases h
      · exact .inr ⟨h, hb⟩
theorem mem_freesK (bnd : Nat → List ByteArray) : ∀ (ks : List Tm) (bd : List UInt8 → Bool) (i : Nat) (x : List UInt8), x ∈ freesK bd bnd ks i ↔ x ∈ freesK (fun _ => false) bnd ks i ∧ bd x = false
  | [], _, _, _ => by unfold freesK; simp
  | k :: ks, bd, i, x => by
    unfold freesK
    rw [List.mem_append, List.mem_append, mem_frees k (fun x => bd x || (bnd i).any fun s => s.toList == x) x, mem_frees k (fun x => false || (bnd i).any fun s => s.toList == x) x, mem_freesK bnd ks bd (i + 1) x]
    simp only [Bool.or_eq_false_iff, Bool.false_or]
    constructor
    · rintro (⟨h1, h2, h3⟩ | ⟨h1, h2⟩)
      · exact ⟨.inl ⟨h1, h3⟩, h2⟩
      · exact ⟨.inr h1, h2⟩
    · rintro ⟨⟨h1, h3⟩ | h1, h2⟩
      · exact .inl ⟨h1, h2, h3⟩
      · exact .inr ⟨h1, h2⟩
end
mutual
theorem mem_rfree : ∀ (T : Tm) (x : List UInt8), okN T → ((∃ y ∈ rfree T, y.toList = x) ↔ x ∈ frees (fun _ => false) T)
  | .mk op n t ks ps, x, hok => by
    unfold okN at hok
    unfold rfree frees
    by_cases h4 : op = 4
    · rw [if_pos h4, if_pos ⟨h4, rfl⟩]
      have hk := hok.2.1 h4
      subst hk
      unfold freesK
      simp [eq_comm]
    · rw [if_neg h4, if_neg (fun h => h4 h.1), mem_rfreeK _ ks 0 [] x hok.2.2.2.2.2]
      simp
theorem mem_rfreeK (bnd : Nat → List ByteArray) : ∀ (ks : List Tm) (i : Nat) (out : List ByteArray) (x : List UInt8), okNs ks → ((∃ y ∈ rfreeK bnd ks i out, y.toList = x) ↔ (∃ y ∈ out, y.toList = x) ∨ x ∈ freesK (fun _ => false) bnd ks i)
  | [], _, _, _, _ => by unfold rfreeK freesK; simp
  | k :: ks, i, out, x, hok => by
    unfold okNs at hok
    unfold rfreeK freesK
    rw [mem_rfreeK bnd ks (i + 1) _ x hok.2, mem_addL, mem_rfree k x hok.1, List.mem_append, mem_frees k (fun x => false || (bnd i).any fun s => s.toList == x) x]
    simp only [Bool.false_or]
    constructor
    · rintro ((h | ⟨h1, h2⟩) | h)
      · exact .inl h
      · exact .inr (.inl ⟨h1, h2⟩)
      · exact .inr (.inr h)
    · rintro (h | ⟨h1, h2⟩ | h)
      · exact .inl (.inl h)
      · exact .inl (.inr ⟨h1, h2⟩)
      · exact .inr h
end
theorem bytesArr_toList (s : ByteArray) : bytesArr s.toList = s := by
  apply ByteArray.ext
  rw [ByteArray.toList_eq]
  simp [bytesArr]
theorem sortedL_nodup {l : List ByteArray} (h : SortedL l) : (l.map ByteArray.toList).Nodup := by
  unfold List.Nodup
  rw [List.pairwise_map]
  exact h.imp fun {a b} h he => by rw [he] at h; exact List.lt_irrefl _ h
theorem rfree_eq {T : Tm} (hok : okN T) : rfree T = freeL T := by
  have hs := rfree_sorted T
  have hp : (dd (frees (fun _ => false) T)).Perm ((rfree T).map ByteArray.toList) := by
    refine (List.perm_ext_iff_of_nodup (nodup_dd _) (sortedL_nodup hs)).2 fun x => ?_
    rw [mem_dd, ← mem_rfree T x hok, List.mem_map]
  have h := freeL_perm hp (by
    rw [List.pairwise_map]
    exact hs.imp fun {a b} h => by simpa [leB] using List.le_of_lt h)
  rw [h, List.map_map]
  have e : bytesArr ∘ ByteArray.toList = id := funext bytesArr_toList
  rw [e, List.map_id]

/-! ### what is formed is fit for the walks -/
mutual
theorem okF_of : ∀ (T : Tm) (d : Int), okM T → ((partsM d T).map (·.2)).all Tm.fits = true → okF T
  | .mk op n t ks ps, d, hm, h => by
    unfold partsM at h
    rw [List.map_cons, List.all_cons, Bool.and_eq_true] at h
    unfold okM at hm
    obtain ⟨h1, h2⟩ := h
    have hk := fits_okN h1
    unfold okF
    rw [show ((d, Tm.mk op n t ks ps).2) = Tm.mk op n t ks ps from rfl, fits_node, Bool.and_eq_true] at h1
    refine ⟨?_, ?_, fun p hp => ?_, okFs_of ks (d + 1) hm.2.2 h2⟩
    · exact hk.1
    · exact hk.2.2.1
    · have hpb := List.all_eq_true.1 h1.2 p hp
      have hl := patB_len hpb
      rw [← refPatB_eq] at hpb
      unfold refPatB at hpb
      simp only [Bool.and_eq_true] at hpb
      exact ⟨hpb.1.2, by omega⟩
theorem okFs_of : ∀ (ts : List Tm) (d : Int), oksM ts → ((partssM d ts).map (·.2)).all Tm.fits = true → okFs ts
  | [], _, _, _ => by unfold okFs; trivial
  | t :: ts, d, hm, h => by
    unfold partssM at h
    rw [List.map_append, List.all_append, Bool.and_eq_true] at h
    unfold oksM at hm
    unfold okFs
    exact ⟨okF_of t d hm.1 h.1, okFs_of ts d hm.2 h.2⟩
end

end Go.Proofs.YtjpahjfjpkbcnaaGreat
