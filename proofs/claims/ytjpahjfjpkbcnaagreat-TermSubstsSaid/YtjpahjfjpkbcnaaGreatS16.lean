/- Contracts of the program's functions. -/
import Derived.Test.YtjpahjfjpkbcnaaGreatS04
import Derived.Test.YtjpahjfjpkbcnaaGreatS07
import Derived.Test.YtjpahjfjpkbcnaaGreatS09
import Derived.Test.YtjpahjfjpkbcnaaGreatS11
import Derived.Test.YtjpahjfjpkbcnaaGreatS15

namespace Go.Proofs.YtjpahjfjpkbcnaaGreat
open Go.Proofs Go.RowKit
attribute [local go_sem] eval_put_same eval_put_ne size_put
def ops107 : Array Oper := #[{ dst := some 33, op := Op.move (Operand.tmp 0), type := 22, pos := "ref.go:356", after := #[], guard := none }, { dst := some 34, op := Op.move (Operand.tmp 5), type := 3, pos := "ref.go:356", after := #[], guard := none }, { dst := some 35, op := Op.slice 22 (Operand.tmp 33) none (some (Operand.tmp 34)) none, type := 22, pos := "ref.go:356", after := #[{ on := 0, ground := Ground.data }, { on := 1, ground := Ground.data }], guard := none }, { dst := some 36, op := Op.call { callee := Callee.builtin Builtin.append, args := #[Operand.const (Value.slice none 0 0), Operand.tmp 35], argTypes := #[22, 22] }, type := 22, pos := "ref.go:356", after := #[{ on := 2, ground := Ground.data }], guard := none }, { dst := some 37, op := Op.move (Operand.tmp 1), type := 9, pos := "ref.go:356", after := #[], guard := none }, { dst := some 38, op := Op.buildSlice 22 1 #[(0, Operand.tmp 37)], type := 22, pos := "ref.go:356", after := #[{ on := 4, ground := Ground.data }], guard := none }, { dst := some 39, op := Op.call { callee := Callee.builtin Builtin.append, args := #[Operand.tmp 36, Operand.tmp 38], argTypes := #[22, 22] }, type := 22, pos := "ref.go:356", after := #[{ on := 3, ground := Ground.data }, { on := 5, ground := Ground.data }, { on := 3, ground := Ground.chain }], guard := none }, { dst := some 40, op := Op.move (Operand.tmp 0), type := 22, pos := "ref.go:356", after := #[], guard := none }, { dst := some 41, op := Op.move (Operand.tmp 5), type := 3, pos := "ref.go:356", after := #[], guard := none }, { dst := some 42, op := Op.slice 22 (Operand.tmp 40) (some (Operand.tmp 41)) none none, type := 22, pos := "ref.go:356", after := #[{ on := 7, ground := Ground.data }, { on := 8, ground := Ground.data }], guard := none }, { dst := some 43, op := Op.call { callee := Callee.builtin Builtin.append, args := #[Operand.tmp 39, Operand.tmp 42], argTypes := #[22, 22] }, type := 22, pos := "ref.go:356", after := #[{ on := 6, ground := Ground.data }, { on := 9, ground := Ground.data }, { on := 6, ground := Ground.chain }], guard := none }, { dst := some 4, op := Op.assign (Operand.tmp 43), type := 22, pos := "ref.go:356", after := #[{ on := 10, ground := Ground.data }, { on := 10, ground := Ground.chain }, { on := 0, ground := Ground.phase }, { on := 1, ground := Ground.phase }, { on := 2, ground := Ground.phase }, { on := 3, ground := Ground.phase }, { on := 4, ground := Ground.phase }, { on := 5, ground := Ground.phase }, { on := 6, ground := Ground.phase }, { on := 7, ground := Ground.phase }, { on := 8, ground := Ground.phase }, { on := 9, ground := Ground.phase }, { on := 10, ground := Ground.phase }], guard := none }]
set_option maxHeartbeats 4000000 in
set_option maxRecDepth 100000 in
theorem reg107 {Q : Exit → Act → World → Prop} {a : Act} {U : World} {k : Nat} {s : ByteArray} {l : List ByteArray} {b o cap : Nat} {ad : Addr}
  (hsz : a.tmps.size = 44) (h0 : a.tmps[0]'(by omega) = (.slice (some ⟨b, o, none⟩) l.length cap)) (h1 : a.tmps[1]'(by omega) = .string s) (h5 : a.tmps[5]'(by omega) = .int .i64 k)
  (hQ : ∀ c (d : Nat) v (a : Act) w, Q (.panic c) (a.put (some d) v) w → Q (.panic c) a w)
  (hs1 : ∀ w', Below U.heap.size U w' → AppSrc w' 1 (.slice (some ⟨b, o, none⟩) k cap) k ((l.take k).map Value.string)) (hs2 : ∀ w', Below U.heap.size U w' → AppSrc w' 1 (.slice (some ad) (l.length - k) (cap - k)) (l.length - k) ((l.drop k).map Value.string)) (hn : l.length ≤ 1000000) (hk : k ≤ l.length) (hkc : k ≤ cap) (had : (if cap = k then some (⟨b, o, none⟩ : Addr) else some ⟨b, o + k, none⟩) = some ad)
  (hK : ∀ (a' : Act) (w' : World) (v : Value), a'.tmps.size = 44 → a'.defers = a.defers → a'.tmps[4]? = some v → w'.ownsRow U.heap.size 9 1 v (l.length + 1) ((l.take k ++ s :: l.drop k).map Value.string) → Below U.heap.size U w' → Q .normal a' w') :
  (Code.region 6 ops107 true).wp Tryz.prog Q a U := by
 obtain ⟨i0, hi, hz0, hz1, hz2⟩ := info_parts Tz.info9
 have HK := lh hK; have HS1 := lh hs1; have HS2 := lh hs2
 clear hK hs1 hs2
 refine wp_region_z (fun w' => Below U.heap.size U w') 11 (by kernel_rfl) ?_
 refine wpAnyZ_take 0 (oi := { dst := some 33, op := Op.move (Operand.tmp 0), type := 22, pos := "ref.go:356", after := #[], guard := none }) (below_drew _ _) rfl (by kernel_rfl) (by kernel_rfl) (by kernel_rfl) (fun c a w h => hQ c _ _ a w h) (by kernel_rfl) rfl (by rfl) (by intro w' hSw; go_simp <;> rfl) ?_
 refine wpAnyZ_take 1 (oi := { dst := some 34, op := Op.move (Operand.tmp 5), type := 3, pos := "ref.go:356", after := #[], guard := none }) (below_drew _ _) rfl (by kernel_rfl) (by kernel_rfl) (by kernel_rfl) (fun c a w h => hQ c _ _ a w h) (by kernel_rfl) rfl (by rfl) (by intro w' hSw; go_simp <;> rfl) ?_
 refine wpAnyZ_take 2 (oi := { dst := some 35, op := Op.slice 22 (Operand.tmp 33) none (some (Operand.tmp 34)) none, type := 22, pos := "ref.go:356", after := #[{ on := 0, ground := Ground.data }, { on := 1, ground := Ground.data }], guard := none }) (below_drew _ _) rfl (by kernel_rfl) (by kernel_rfl) (by kernel_rfl) (fun c a w h => hQ c _ _ a w h) (by kernel_rfl) rfl (by rfl) (by intro w' hSw; go_simp <;> rfl) ?_
 refine wpAnyZ_take 4 (oi := { dst := some 37, op := Op.move (Operand.tmp 1), type := 9, pos := "ref.go:356", after := #[], guard := none }) (below_drew _ _) rfl (by kernel_rfl) (by kernel_rfl) (by kernel_rfl) (fun c a w h => hQ c _ _ a w h) (by kernel_rfl) rfl (by rfl) (by intro w' hSw; go_simp <;> rfl) ?_
 refine wpAnyZ_take 7 (oi := { dst := some 40, op := Op.move (Operand.tmp 0), type := 22, pos := "ref.go:356", after := #[], guard := none }) (below_drew _ _) rfl (by kernel_rfl) (by kernel_rfl) (by kernel_rfl) (fun c a w h => hQ c _ _ a w h) (by kernel_rfl) rfl (by rfl) (by intro w' hSw; go_simp <;> rfl) ?_
 refine wpAnyZ_take 8 (oi := { dst := some 41, op := Op.move (Operand.tmp 5), type := 3, pos := "ref.go:356", after := #[], guard := none }) (below_drew _ _) rfl (by kernel_rfl) (by kernel_rfl) (by kernel_rfl) (fun c a w h => hQ c _ _ a w h) (by kernel_rfl) rfl (by rfl) (by intro w' hSw; go_simp <;> rfl) ?_
 refine wpAnyZ_take 9 (oi := { dst := some 42, op := Op.slice 22 (Operand.tmp 40) (some (Operand.tmp 41)) none none, type := 22, pos := "ref.go:356", after := #[{ on := 7, ground := Ground.data }, { on := 8, ground := Ground.data }], guard := none }) (below_drew _ _) rfl (by kernel_rfl) (by kernel_rfl) (by kernel_rfl) (fun c a w h => hQ c _ _ a w h) (by kernel_rfl) rfl (by rfl) (by intro w' hSw; go_simp <;> rfl) ?_
 refine wpAnyZ_two 3 5 (o := { dst := some 36, op := Op.call { callee := Callee.builtin Builtin.append, args := #[Operand.const (Value.slice none 0 0), Operand.tmp 35], argTypes := #[22, 22] }, type := 22, pos := "ref.go:356", after := #[{ on := 2, ground := Ground.data }], guard := none }) (o' := { dst := some 38, op := Op.buildSlice 22 1 #[(0, Operand.tmp 37)], type := 22, pos := "ref.go:356", after := #[{ on := 4, ground := Ground.data }], guard := none }) (by kernel_rfl) rfl rfl (fun KK hKK => ?_) (fun KK hKK => ?_)
 ·refine step_append_any _ (by rfl) _ _ _ (by rfl) U.heap.size 9 i0 _ 1 16 Tz.underlying22 hi hz0 hz1 hz2 rfl (by decide) (.slice none 0 0) 0 [] (by go_simp) (World.ownsRow_nil _ _ _ _) (.slice (some ⟨b, o, none⟩) k cap) k ((l.take k).map Value.string) (by go_simp) (HS1.out _ (below_drew _ _)) (by unfold maxLen; omega) (by omega) (Nat.le_refl _) ?_
  intro v3 w3 hown3 hgr3 hat3
  rw [Nat.zero_add, List.nil_append] at hown3
  have hb3 : Below U.heap.size U w3 := (below_drew _ _).trans (below_of_grown hgr3 (Nat.le_refl _) fun g hg => by cases hg)
  refine hKK.out _ _ (fun _ => hb3) ?_
  clear hKK KK
  refine wpAnyZ_one 5 (o := { dst := some 38, op := Op.buildSlice 22 1 #[(0, Operand.tmp 37)], type := 22, pos := "ref.go:356", after := #[{ on := 4, ground := Ground.data }], guard := none }) (by kernel_rfl) rfl fun KK hKK => ?_
  go_simp
  have hb5 : Below U.heap.size U (w3.alloc (.cells #[.string s] 9)) := hb3.alloc hb3.size _
  have hx5 := heap_alloc_new w3 (.cells #[.string s] 9)
  have hs5 : (w3.alloc (.cells #[.string s] 9)).heap.size = w3.heap.size + 1 := by simp
  have hr5 : (w3.alloc (.cells #[.string s] 9)).ownsRow U.heap.size 9 1 v3 k ((l.take k).map Value.string) := ownsRow_of_block hown3 fun g hg => Below.heap_alloc _ _ _ (hown3.lt g hg).2
  refine hKK.out _ _ (fun _ => hb5) ?_
  clear hKK KK
  generalize (w3.alloc (.cells #[.string s] 9)) = w5 at *
  generalize w3.heap.size = c5 at *
  have hc5 : AppSrc w5 1 (.slice (some ⟨c5, 0, none⟩) 1 1) 1 [Value.string s] := .inr ⟨⟨c5, 0, none⟩, 1, rfl, rfl, fun j u hj => by
   match j, hj with
   | 0, hj => exact (cell_box hx5).trans hj
   | j + 1, hj => simp at hj, fun u hu => by simp at hu; subst hu; rfl⟩
  have HB5 := lh hb5; have HR3 := lh hr5; have HC5 := lh hc5
  have hsz5 := hb5.size
  clear hb3 hown3 hgr3 hat3 hb5 hx5 hs5 hr5 hc5
  refine wpAnyZ_one 6 (o := { dst := some 39, op := Op.call { callee := Callee.builtin Builtin.append, args := #[Operand.tmp 36, Operand.tmp 38], argTypes := #[22, 22] }, type := 22, pos := "ref.go:356", after := #[{ on := 3, ground := Ground.data }, { on := 5, ground := Ground.data }, { on := 3, ground := Ground.chain }], guard := none }) (by kernel_rfl) rfl fun KK hKK => ?_
  refine step_append_any _ (by rfl) _ _ _ (by rfl) U.heap.size 9 i0 _ 1 16 Tz.underlying22 hi hz0 hz1 hz2 rfl (by decide) v3 k ((l.take k).map Value.string) (by go_simp) HR3.out (.slice (some ⟨c5, 0, none⟩) 1 1) 1 [Value.string s] (by go_simp) HC5.out (by unfold maxLen; omega) (by omega) (by omega) ?_
  intro v6 w6 hown6 hgr6 hat6
  have hb6 : Below U.heap.size U w6 := HB5.out.trans (below_of_grown hgr6 HB5.out.size fun g hg => (HR3.out.lt g hg).1)
  have HR6 := lh hown6; have HB6 := lh hb6
  have hs6 := hb6.size
  clear hown6 hgr6 hat6 hb6
  refine hKK.out _ _ (fun _ => HB6.out) ?_
  clear hKK KK
  refine wpAnyZ_one 10 (o := { dst := some 43, op := Op.call { callee := Callee.builtin Builtin.append, args := #[Operand.tmp 39, Operand.tmp 42], argTypes := #[22, 22] }, type := 22, pos := "ref.go:356", after := #[{ on := 6, ground := Ground.data }, { on := 9, ground := Ground.data }, { on := 6, ground := Ground.chain }], guard := none }) (by kernel_rfl) rfl fun KK hKK => ?_
  refine step_append_any _ (by rfl) _ _ _ (by rfl) U.heap.size 9 i0 _ 1 16 Tz.underlying22 hi hz0 hz1 hz2 rfl (by decide) v6 (k + 1) ((l.take k).map Value.string ++ [Value.string s]) (by go_simp) HR6.out (.slice (some ad) (l.length - k) (cap - k)) (l.length - k) ((l.drop k).map Value.string) (by go_simp) (HS2.out _ HB6.out) (by unfold maxLen; omega) (by omega) (by omega) ?_
  intro v7 w7 hown7 hgr7 hat7
  have hb7 : Below U.heap.size U w7 := HB6.out.trans (below_of_grown hgr7 HB6.out.size fun g hg => (HR6.out.lt g hg).1)
  have hn7 : k + 1 + (l.length - k) = l.length + 1 := by omega
  have hx7 : (l.take k).map Value.string ++ [Value.string s] ++ (l.drop k).map Value.string = (l.take k ++ s :: l.drop k).map Value.string := by simp
  rw [hn7, hx7] at hown7
  have HR7 := lh hown7; have HB7 := lh hb7
  clear hown7 hgr7 hat7 hb7 hn7 hx7
  refine hKK.out _ _ (fun _ => HB7.out) ?_
  clear hKK KK
  refine wpAnyZ_one 11 (o := { dst := some 4, op := Op.assign (Operand.tmp 43), type := 22, pos := "ref.go:356", after := #[{ on := 10, ground := Ground.data }, { on := 10, ground := Ground.chain }, { on := 0, ground := Ground.phase }, { on := 1, ground := Ground.phase }, { on := 2, ground := Ground.phase }, { on := 3, ground := Ground.phase }, { on := 4, ground := Ground.phase }, { on := 5, ground := Ground.phase }, { on := 6, ground := Ground.phase }, { on := 7, ground := Ground.phase }, { on := 8, ground := Ground.phase }, { on := 9, ground := Ground.phase }, { on := 10, ground := Ground.phase }], guard := none }) (by kernel_rfl) rfl fun KK hKK => ?_
  go_simp
  refine hKK.out _ _ (fun h => absurd rfl h) ?_
  refine wpAnyZ_done (by kernel_rfl) ?_ _
  exact HK.out _ _ v7 (by simp [hsz]) rfl (by simp [hsz]) HR7.out HB7.out
 ·go_simp
  have hb5 : Below U.heap.size U (U.alloc (.cells #[.string s] 9)).drew := ((Below.refl _ _).alloc (Nat.le_refl _) _).trans (below_drew _ _)
  have hx5 : (U.alloc (.cells #[.string s] 9)).drew.heap[U.heap.size]? = _ := heap_alloc_new U (.cells #[.string s] 9)
  have hs5 : (U.alloc (.cells #[.string s] 9)).drew.heap.size = U.heap.size + 1 := by simp [World.drew]
  refine hKK.out _ _ (fun _ => hb5) ?_
  clear hKK KK
  generalize (U.alloc (.cells #[.string s] 9)).drew = w5 at *
  refine wpAnyZ_one 3 (o := { dst := some 36, op := Op.call { callee := Callee.builtin Builtin.append, args := #[Operand.const (Value.slice none 0 0), Operand.tmp 35], argTypes := #[22, 22] }, type := 22, pos := "ref.go:356", after := #[{ on := 2, ground := Ground.data }], guard := none }) (by kernel_rfl) rfl fun KK hKK => ?_
  refine step_append_any _ (by rfl) _ _ _ (by rfl) U.heap.size 9 i0 _ 1 16 Tz.underlying22 hi hz0 hz1 hz2 rfl (by decide) (.slice none 0 0) 0 [] (by go_simp) (World.ownsRow_nil _ _ _ _) (.slice (some ⟨b, o, none⟩) k cap) k ((l.take k).map Value.string) (by go_simp) (HS1.out _ hb5) (by unfold maxLen; omega) (by omega) (by omega) ?_
  intro v3 w3 hown3 hgr3 hat3
  rw [Nat.zero_add, List.nil_append] at hown3
  have hb3 : Below U.heap.size U w3 := hb5.trans (below_of_grown hgr3 (by omega) fun g hg => by cases hg)
  have hx3 := (hgr3.block _ (by omega) (fun e => by cases e)).trans hx5
  refine hKK.out _ _ (fun _ => hb3) ?_
  clear hKK KK
  generalize hc5' : U.heap.size = c5 at hx3 ⊢
  have hc5 : AppSrc w3 1 (.slice (some ⟨c5, 0, none⟩) 1 1) 1 [Value.string s] := .inr ⟨⟨c5, 0, none⟩, 1, rfl, rfl, fun j u hj => by
   match j, hj with
   | 0, hj => exact (cell_box hx3).trans hj
   | j + 1, hj => simp at hj, fun u hu => by simp at hu; subst hu; rfl⟩
  have HB5 := lh hb3; have HR3 := lh hown3; have HC5 := lh hc5
  have hsz5 := hb3.size
  clear hb3 hown3 hgr3 hat3 hb5 hx5 hs5 hx3 hc5
  rw [← hc5']
  rw [← hc5'] at HC5
  clear hc5'
  refine wpAnyZ_one 6 (o := { dst := some 39, op := Op.call { callee := Callee.builtin Builtin.append, args := #[Operand.tmp 36, Operand.tmp 38], argTypes := #[22, 22] }, type := 22, pos := "ref.go:356", after := #[{ on := 3, ground := Ground.data }, { on := 5, ground := Ground.data }, { on := 3, ground := Ground.chain }], guard := none }) (by kernel_rfl) rfl fun KK hKK => ?_
  refine step_append_any _ (by rfl) _ _ _ (by rfl) U.heap.size 9 i0 _ 1 16 Tz.underlying22 hi hz0 hz1 hz2 rfl (by decide) v3 k ((l.take k).map Value.string) (by go_simp) HR3.out (.slice (some ⟨U.heap.size, 0, none⟩) 1 1) 1 [Value.string s] (by go_simp) HC5.out (by unfold maxLen; omega) (by omega) (by omega) ?_
  intro v6 w6 hown6 hgr6 hat6
  have hb6 : Below U.heap.size U w6 := HB5.out.trans (below_of_grown hgr6 HB5.out.size fun g hg => (HR3.out.lt g hg).1)
  have HR6 := lh hown6; have HB6 := lh hb6
  have hs6 := hb6.size
  clear hown6 hgr6 hat6 hb6
  refine hKK.out _ _ (fun _ => HB6.out) ?_
  clear hKK KK
  refine wpAnyZ_one 10 (o := { dst := some 43, op := Op.call { callee := Callee.builtin Builtin.append, args := #[Operand.tmp 39, Operand.tmp 42], argTypes := #[22, 22] }, type := 22, pos := "ref.go:356", after := #[{ on := 6, ground := Ground.data }, { on := 9, ground := Ground.data }, { on := 6, ground := Ground.chain }], guard := none }) (by kernel_rfl) rfl fun KK hKK => ?_
  refine step_append_any _ (by rfl) _ _ _ (by rfl) U.heap.size 9 i0 _ 1 16 Tz.underlying22 hi hz0 hz1 hz2 rfl (by decide) v6 (k + 1) ((l.take k).map Value.string ++ [Value.string s]) (by go_simp) HR6.out (.slice (some ad) (l.length - k) (cap - k)) (l.length - k) ((l.drop k).map Value.string) (by go_simp) (HS2.out _ HB6.out) (by unfold maxLen; omega) (by omega) (by omega) ?_
  intro v7 w7 hown7 hgr7 hat7
  have hb7 : Below U.heap.size U w7 := HB6.out.trans (below_of_grown hgr7 HB6.out.size fun g hg => (HR6.out.lt g hg).1)
  have hn7 : k + 1 + (l.length - k) = l.length + 1 := by omega
  have hx7 : (l.take k).map Value.string ++ [Value.string s] ++ (l.drop k).map Value.string = (l.take k ++ s :: l.drop k).map Value.string := by simp
  rw [hn7, hx7] at hown7
  have HR7 := lh hown7; have HB7 := lh hb7
  clear hown7 hgr7 hat7 hb7 hn7 hx7
  refine hKK.out _ _ (fun _ => HB7.out) ?_
  clear hKK KK
  refine wpAnyZ_one 11 (o := { dst := some 4, op := Op.assign (Operand.tmp 43), type := 22, pos := "ref.go:356", after := #[{ on := 10, ground := Ground.data }, { on := 10, ground := Ground.chain }, { on := 0, ground := Ground.phase }, { on := 1, ground := Ground.phase }, { on := 2, ground := Ground.phase }, { on := 3, ground := Ground.phase }, { on := 4, ground := Ground.phase }, { on := 5, ground := Ground.phase }, { on := 6, ground := Ground.phase }, { on := 7, ground := Ground.phase }, { on := 8, ground := Ground.phase }, { on := 9, ground := Ground.phase }, { on := 10, ground := Ground.phase }], guard := none }) (by kernel_rfl) rfl fun KK hKK => ?_
  go_simp
  refine hKK.out _ _ (fun h => absurd rfl h) ?_
  refine wpAnyZ_done (by kernel_rfl) ?_ _
  exact HK.out _ _ v7 (by simp [hsz]) rfl (by simp [hsz]) HR7.out HB7.out
set_option maxHeartbeats 4000000 in
set_option maxRecDepth 100000 in
theorem reg107n {Q : Exit → Act → World → Prop} {a : Act} {U : World} {k : Nat} {s : ByteArray} {l : List ByteArray}
  (hsz : a.tmps.size = 44) (h0 : a.tmps[0]'(by omega) = (.slice none 0 0)) (h1 : a.tmps[1]'(by omega) = .string s) (h5 : a.tmps[5]'(by omega) = .int .i64 k)
  (hQ : ∀ c (d : Nat) v (a : Act) w, Q (.panic c) (a.put (some d) v) w → Q (.panic c) a w)
  (hs1 : ∀ w', Below U.heap.size U w' → AppSrc w' 1 (.slice none 0 0) k ((l.take k).map Value.string)) (hs2 : ∀ w', Below U.heap.size U w' → AppSrc w' 1 (.slice none 0 0) (l.length - k) ((l.drop k).map Value.string)) (hn : l.length ≤ 1000000) (hk : k ≤ l.length) (hk0 : k = 0)
  (hK : ∀ (a' : Act) (w' : World) (v : Value), a'.tmps.size = 44 → a'.defers = a.defers → a'.tmps[4]? = some v → w'.ownsRow U.heap.size 9 1 v (l.length + 1) ((l.take k ++ s :: l.drop k).map Value.string) → Below U.heap.size U w' → Q .normal a' w') :
  (Code.region 6 ops107 true).wp Tryz.prog Q a U := by
 obtain ⟨i0, hi, hz0, hz1, hz2⟩ := info_parts Tz.info9
 have HK := lh hK; have HS1 := lh hs1; have HS2 := lh hs2
 clear hK hs1 hs2
 refine wp_region_z (fun w' => Below U.heap.size U w') 11 (by kernel_rfl) ?_
 refine wpAnyZ_take 0 (oi := { dst := some 33, op := Op.move (Operand.tmp 0), type := 22, pos := "ref.go:356", after := #[], guard := none }) (below_drew _ _) rfl (by kernel_rfl) (by kernel_rfl) (by kernel_rfl) (fun c a w h => hQ c _ _ a w h) (by kernel_rfl) rfl (by rfl) (by intro w' hSw; go_simp <;> rfl) ?_
 refine wpAnyZ_take 1 (oi := { dst := some 34, op := Op.move (Operand.tmp 5), type := 3, pos := "ref.go:356", after := #[], guard := none }) (below_drew _ _) rfl (by kernel_rfl) (by kernel_rfl) (by kernel_rfl) (fun c a w h => hQ c _ _ a w h) (by kernel_rfl) rfl (by rfl) (by intro w' hSw; go_simp <;> rfl) ?_
 refine wpAnyZ_take 2 (oi := { dst := some 35, op := Op.slice 22 (Operand.tmp 33) none (some (Operand.tmp 34)) none, type := 22, pos := "ref.go:356", after := #[{ on := 0, ground := Ground.data }, { on := 1, ground := Ground.data }], guard := none }) (below_drew _ _) rfl (by kernel_rfl) (by kernel_rfl) (by kernel_rfl) (fun c a w h => hQ c _ _ a w h) (by kernel_rfl) rfl (by rfl) (by intro w' hSw; go_simp <;> rfl) ?_
 refine wpAnyZ_take 4 (oi := { dst := some 37, op := Op.move (Operand.tmp 1), type := 9, pos := "ref.go:356", after := #[], guard := none }) (below_drew _ _) rfl (by kernel_rfl) (by kernel_rfl) (by kernel_rfl) (fun c a w h => hQ c _ _ a w h) (by kernel_rfl) rfl (by rfl) (by intro w' hSw; go_simp <;> rfl) ?_
 refine wpAnyZ_take 7 (oi := { dst := some 40, op := Op.move (Operand.tmp 0), type := 22, pos := "ref.go:356", after := #[], guard := none }) (below_drew _ _) rfl (by kernel_rfl) (by kernel_rfl) (by kernel_rfl) (fun c a w h => hQ c _ _ a w h) (by kernel_rfl) rfl (by rfl) (by intro w' hSw; go_simp <;> rfl) ?_
 refine wpAnyZ_take 8 (oi := { dst := some 41, op := Op.move (Operand.tmp 5), type := 3, pos := "ref.go:356", after := #[], guard := none }) (below_drew _ _) rfl (by kernel_rfl) (by kernel_rfl) (by kernel_rfl) (fun c a w h => hQ c _ _ a w h) (by kernel_rfl) rfl (by rfl) (by intro w' hSw; go_simp <;> rfl) ?_
 refine wpAnyZ_take 9 (oi := { dst := some 42, op := Op.slice 22 (Operand.tmp 40) (some (Operand.tmp 41)) none none, type := 22, pos := "ref.go:356", after := #[{ on := 7, ground := Ground.data }, { on := 8, ground := Ground.data }], guard := none }) (below_drew _ _) rfl (by kernel_rfl) (by kernel_rfl) (by kernel_rfl) (fun c a w h => hQ c _ _ a w h) (by kernel_rfl) rfl (by rfl) (by intro w' hSw; go_simp <;> rfl) ?_
 refine wpAnyZ_two 3 5 (o := { dst := some 36, op := Op.call { callee := Callee.builtin Builtin.append, args := #[Operand.const (Value.slice none 0 0), Operand.tmp 35], argTypes := #[22, 22] }, type := 22, pos := "ref.go:356", after := #[{ on := 2, ground := Ground.data }], guard := none }) (o' := { dst := some 38, op := Op.buildSlice 22 1 #[(0, Operand.tmp 37)], type := 22, pos := "ref.go:356", after := #[{ on := 4, ground := Ground.data }], guard := none }) (by kernel_rfl) rfl rfl (fun KK hKK => ?_) (fun KK hKK => ?_)
 ·refine step_append_any _ (by rfl) _ _ _ (by rfl) U.heap.size 9 i0 _ 1 16 Tz.underlying22 hi hz0 hz1 hz2 rfl (by decide) (.slice none 0 0) 0 [] (by go_simp) (World.ownsRow_nil _ _ _ _) (.slice none 0 0) k ((l.take k).map Value.string) (by go_simp) (HS1.out _ (below_drew _ _)) (by unfold maxLen; omega) (by omega) (Nat.le_refl _) ?_
  intro v3 w3 hown3 hgr3 hat3
  rw [Nat.zero_add, List.nil_append] at hown3
  have hb3 : Below U.heap.size U w3 := (below_drew _ _).trans (below_of_grown hgr3 (Nat.le_refl _) fun g hg => by cases hg)
  refine hKK.out _ _ (fun _ => hb3) ?_
  clear hKK KK
  refine wpAnyZ_one 5 (o := { dst := some 38, op := Op.buildSlice 22 1 #[(0, Operand.tmp 37)], type := 22, pos := "ref.go:356", after := #[{ on := 4, ground := Ground.data }], guard := none }) (by kernel_rfl) rfl fun KK hKK => ?_
  go_simp
  have hb5 : Below U.heap.size U (w3.alloc (.cells #[.string s] 9)) := hb3.alloc hb3.size _
  have hx5 := heap_alloc_new w3 (.cells #[.string s] 9)
  have hs5 : (w3.alloc (.cells #[.string s] 9)).heap.size = w3.heap.size + 1 := by simp
  have hr5 : (w3.alloc (.cells #[.string s] 9)).ownsRow U.heap.size 9 1 v3 k ((l.take k).map Value.string) := ownsRow_of_block hown3 fun g hg => Below.heap_alloc _ _ _ (hown3.lt g hg).2
  refine hKK.out _ _ (fun _ => hb5) ?_
  clear hKK KK
  generalize (w3.alloc (.cells #[.string s] 9)) = w5 at *
  generalize w3.heap.size = c5 at *
  have hc5 : AppSrc w5 1 (.slice (some ⟨c5, 0, none⟩) 1 1) 1 [Value.string s] := .inr ⟨⟨c5, 0, none⟩, 1, rfl, rfl, fun j u hj => by
   match j, hj with
   | 0, hj => exact (cell_box hx5).trans hj
   | j + 1, hj => simp at hj, fun u hu => by simp at hu; subst hu; rfl⟩
  have HB5 := lh hb5; have HR3 := lh hr5; have HC5 := lh hc5
  have hsz5 := hb5.size
  clear hb3 hown3 hgr3 hat3 hb5 hx5 hs5 hr5 hc5
  refine wpAnyZ_one 6 (o := { dst := some 39, op := Op.call { callee := Callee.builtin Builtin.append, args := #[Operand.tmp 36, Operand.tmp 38], argTypes := #[22, 22] }, type := 22, pos := "ref.go:356", after := #[{ on := 3, ground := Ground.data }, { on := 5, ground := Ground.data }, { on := 3, ground := Ground.chain }], guard := none }) (by kernel_rfl) rfl fun KK hKK => ?_
  refine step_append_any _ (by rfl) _ _ _ (by rfl) U.heap.size 9 i0 _ 1 16 Tz.underlying22 hi hz0 hz1 hz2 rfl (by decide) v3 k ((l.take k).map Value.string) (by go_simp) HR3.out (.slice (some ⟨c5, 0, none⟩) 1 1) 1 [Value.string s] (by go_simp) HC5.out (by unfold maxLen; omega) (by omega) (by omega) ?_
  intro v6 w6 hown6 hgr6 hat6
  have hb6 : Below U.heap.size U w6 := HB5.out.trans (below_of_grown hgr6 HB5.out.size fun g hg => (HR3.out.lt g hg).1)
  have HR6 := lh hown6; have HB6 := lh hb6
  have hs6 := hb6.size
  clear hown6 hgr6 hat6 hb6
  refine hKK.out _ _ (fun _ => HB6.out) ?_
  clear hKK KK
  refine wpAnyZ_one 10 (o := { dst := some 43, op := Op.call { callee := Callee.builtin Builtin.append, args := #[Operand.tmp 39, Operand.tmp 42], argTypes := #[22, 22] }, type := 22, pos := "ref.go:356", after := #[{ on := 6, ground := Ground.data }, { on := 9, ground := Ground.data }, { on := 6, ground := Ground.chain }], guard := none }) (by kernel_rfl) rfl fun KK hKK => ?_
  refine step_append_any _ (by rfl) _ _ _ (by rfl) U.heap.size 9 i0 _ 1 16 Tz.underlying22 hi hz0 hz1 hz2 rfl (by decide) v6 (k + 1) ((l.take k).map Value.string ++ [Value.string s]) (by go_simp) HR6.out (.slice none 0 0) (l.length - k) ((l.drop k).map Value.string) (by go_simp) (HS2.out _ HB6.out) (by unfold maxLen; omega) (by omega) (by omega) ?_
  intro v7 w7 hown7 hgr7 hat7
  have hb7 : Below U.heap.size U w7 := HB6.out.trans (below_of_grown hgr7 HB6.out.size fun g hg => (HR6.out.lt g hg).1)
  have hn7 : k + 1 + (l.length - k) = l.length + 1 := by omega
  have hx7 : (l.take k).map Value.string ++ [Value.string s] ++ (l.drop k).map Value.string = (l.take k ++ s :: l.drop k).map Value.string := by simp
  rw [hn7, hx7] at hown7
  have HR7 := lh hown7; have HB7 := lh hb7
  clear hown7 hgr7 hat7 hb7 hn7 hx7
  refine hKK.out _ _ (fun _ => HB7.out) ?_
  clear hKK KK
  refine wpAnyZ_one 11 (o := { dst := some 4, op := Op.assign (Operand.tmp 43), type := 22, pos := "ref.go:356", after := #[{ on := 10, ground := Ground.data }, { on := 10, ground := Ground.chain }, { on := 0, ground := Ground.phase }, { on := 1, ground := Ground.phase }, { on := 2, ground := Ground.phase }, { on := 3, ground := Ground.phase }, { on := 4, ground := Ground.phase }, { on := 5, ground := Ground.phase }, { on := 6, ground := Ground.phase }, { on := 7, ground := Ground.phase }, { on := 8, ground := Ground.phase }, { on := 9, ground := Ground.phase }, { on := 10, ground := Ground.phase }], guard := none }) (by kernel_rfl) rfl fun KK hKK => ?_
  go_simp
  refine hKK.out _ _ (fun h => absurd rfl h) ?_
  refine wpAnyZ_done (by kernel_rfl) ?_ _
  exact HK.out _ _ v7 (by simp [hsz]) rfl (by simp [hsz]) HR7.out HB7.out
 ·go_simp
  have hb5 : Below U.heap.size U (U.alloc (.cells #[.string s] 9)).drew := ((Below.refl _ _).alloc (Nat.le_refl _) _).trans (below_drew _ _)
  have hx5 : (U.alloc (.cells #[.string s] 9)).drew.heap[U.heap.size]? = _ := heap_alloc_new U (.cells #[.string s] 9)
  have hs5 : (U.alloc (.cells #[.string s] 9)).drew.heap.size = U.heap.size + 1 := by simp [World.drew]
  refine hKK.out _ _ (fun _ => hb5) ?_
  clear hKK KK
  generalize (U.alloc (.cells #[.string s] 9)).drew = w5 at *
  refine wpAnyZ_one 3 (o := { dst := some 36, op := Op.call { callee := Callee.builtin Builtin.append, args := #[Operand.const (Value.slice none 0 0), Operand.tmp 35], argTypes := #[22, 22] }, type := 22, pos := "ref.go:356", after := #[{ on := 2, ground := Ground.data }], guard := none }) (by kernel_rfl) rfl fun KK hKK => ?_
  refine step_append_any _ (by rfl) _ _ _ (by rfl) U.heap.size 9 i0 _ 1 16 Tz.underlying22 hi hz0 hz1 hz2 rfl (by decide) (.slice none 0 0) 0 [] (by go_simp) (World.ownsRow_nil _ _ _ _) (.slice none 0 0) k ((l.take k).map Value.string) (by go_simp) (HS1.out _ hb5) (by unfold maxLen; omega) (by omega) (by omega) ?_
  intro v3 w3 hown3 hgr3 hat3
  rw [Nat.zero_add, List.nil_append] at hown3
  have hb3 : Below U.heap.size U w3 := hb5.trans (below_of_grown hgr3 (by omega) fun g hg => by cases hg)
  have hx3 := (hgr3.block _ (by omega) (fun e => by cases e)).trans hx5
  refine hKK.out _ _ (fun _ => hb3) ?_
  clear hKK KK
  generalize hc5' : U.heap.size = c5 at hx3 ⊢
  have hc5 : AppSrc w3 1 (.slice (some ⟨c5, 0, none⟩) 1 1) 1 [Value.string s] := .inr ⟨⟨c5, 0, none⟩, 1, rfl, rfl, fun j u hj => by
   match j, hj with
   | 0, hj => exact (cell_box hx3).trans hj
   | j + 1, hj => simp at hj, fun u hu => by simp at hu; subst hu; rfl⟩
  have HB5 := lh hb3; have HR3 := lh hown3; have HC5 := lh hc5
  have hsz5 := hb3.size
  clear hb3 hown3 hgr3 hat3 hb5 hx5 hs5 hx3 hc5
  rw [← hc5']
  rw [← hc5'] at HC5
  clear hc5'
  refine wpAnyZ_one 6 (o := { dst := some 39, op := Op.call { callee := Callee.builtin Builtin.append, args := #[Operand.tmp 36, Operand.tmp 38], argTypes := #[22, 22] }, type := 22, pos := "ref.go:356", after := #[{ on := 3, ground := Ground.data }, { on := 5, ground := Ground.data }, { on := 3, ground := Ground.chain }], guard := none }) (by kernel_rfl) rfl fun KK hKK => ?_
  refine step_append_any _ (by rfl) _ _ _ (by rfl) U.heap.size 9 i0 _ 1 16 Tz.underlying22 hi hz0 hz1 hz2 rfl (by decide) v3 k ((l.take k).map Value.string) (by go_simp) HR3.out (.slice (some ⟨U.heap.size, 0, none⟩) 1 1) 1 [Value.string s] (by go_simp) HC5.out (by unfold maxLen; omega) (by omega) (by omega) ?_
  intro v6 w6 hown6 hgr6 hat6
  have hb6 : Below U.heap.size U w6 := HB5.out.trans (below_of_grown hgr6 HB5.out.size fun g hg => (HR3.out.lt g hg).1)
  have HR6 := lh hown6; have HB6 := lh hb6
  have hs6 := hb6.size
  clear hown6 hgr6 hat6 hb6
  refine hKK.out _ _ (fun _ => HB6.out) ?_
  clear hKK KK
  refine wpAnyZ_one 10 (o := { dst := some 43, op := Op.call { callee := Callee.builtin Builtin.append, args := #[Operand.tmp 39, Operand.tmp 42], argTypes := #[22, 22] }, type := 22, pos := "ref.go:356", after := #[{ on := 6, ground := Ground.data }, { on := 9, ground := Ground.data }, { on := 6, ground := Ground.chain }], guard := none }) (by kernel_rfl) rfl fun KK hKK => ?_
  refine step_append_any _ (by rfl) _ _ _ (by rfl) U.heap.size 9 i0 _ 1 16 Tz.underlying22 hi hz0 hz1 hz2 rfl (by decide) v6 (k + 1) ((l.take k).map Value.string ++ [Value.string s]) (by go_simp) HR6.out (.slice none 0 0) (l.length - k) ((l.drop k).map Value.string) (by go_simp) (HS2.out _ HB6.out) (by unfold maxLen; omega) (by omega) (by omega) ?_
  intro v7 w7 hown7 hgr7 hat7
  have hb7 : Below U.heap.size U w7 := HB6.out.trans (below_of_grown hgr7 HB6.out.size fun g hg => (HR6.out.lt g hg).1)
  have hn7 : k + 1 + (l.length - k) = l.length + 1 := by omega
  have hx7 : (l.take k).map Value.string ++ [Value.string s] ++ (l.drop k).map Value.string = (l.take k ++ s :: l.drop k).map Value.string := by simp
  rw [hn7, hx7] at hown7
  have HR7 := lh hown7; have HB7 := lh hb7
  clear hown7 hgr7 hat7 hb7 hn7 hx7
  refine hKK.out _ _ (fun _ => HB7.out) ?_
  clear hKK KK
  refine wpAnyZ_one 11 (o := { dst := some 4, op := Op.assign (Operand.tmp 43), type := 22, pos := "ref.go:356", after := #[{ on := 10, ground := Ground.data }, { on := 10, ground := Ground.chain }, { on := 0, ground := Ground.phase }, { on := 1, ground := Ground.phase }, { on := 2, ground := Ground.phase }, { on := 3, ground := Ground.phase }, { on := 4, ground := Ground.phase }, { on := 5, ground := Ground.phase }, { on := 6, ground := Ground.phase }, { on := 7, ground := Ground.phase }, { on := 8, ground := Ground.phase }, { on := 9, ground := Ground.phase }, { on := 10, ground := Ground.phase }], guard := none }) (by kernel_rfl) rfl fun KK hKK => ?_
  go_simp
  refine hKK.out _ _ (fun h => absurd rfl h) ?_
  refine wpAnyZ_done (by kernel_rfl) ?_ _
  exact HK.out _ _ v7 (by simp [hsz]) rfl (by simp [hsz]) HR7.out HB7.out
end Go.Proofs.YtjpahjfjpkbcnaaGreat
namespace Go.Proofs.YtjpahjfjpkbcnaaGreat
open Go.Proofs Go.RowKit
def ltB (a b : ByteArray) : Bool := Op.bytesLess a.toList b.toList
def idxB (s : ByteArray) : List ByteArray → Nat
 | [] => 0
 | x :: xs => if ltB x s then idxB s xs + 1 else 0
def putL (s : ByteArray) : List ByteArray → List ByteArray
 | [] => [s]
 | x :: xs => if ltB x s then x :: putL s xs else if x.toList == s.toList then x :: xs else s :: x :: xs
theorem idxB_drop (s : ByteArray) (l : List ByteArray) (k : Nat) (h : k < l.length) : idxB s (l.drop k) = if ltB l[k] s then idxB s (l.drop (k + 1)) + 1 else 0 := by
 rw [List.drop_eq_getElem_cons h]
 rfl
theorem putL_at (s : ByteArray) : ∀ (l : List ByteArray) (k : Nat), idxB s l = k → putL s l = if h : k < l.length then (if l[k].toList == s.toList then l else l.take k ++ s :: l.drop k) else l.take k ++ s :: l.drop k
 | [], k, h => by simp [putL]
 | x :: xs, k, h => by
  unfold putL
  unfold idxB at h
  cases hx : ltB x s with
  | false =>
   rw [hx] at h
   subst h
   simp
  | true =>
   rw [hx, if_pos rfl] at h
   subst h
   rw [if_pos rfl, putL_at s xs _ rfl]
   by_cases h2 : idxB s xs < xs.length
   ·rw [dif_pos h2, dif_pos (show idxB s xs + 1 < (x :: xs).length by simpa using h2)]
    simp only [List.getElem_cons_succ]
    split <;> simp
   ·rw [dif_neg h2, dif_neg (show ¬ (idxB s xs + 1 < (x :: xs).length) by simpa using h2)]
    simp
theorem addr_add (b o j : Nat) : (⟨b, o, none⟩ : Addr).add j = ⟨b, o + j, none⟩ := by unfold Addr.add; split <;> simp_all
theorem strsAt_cells {w : World} : ∀ (ss : List ByteArray) (b o : Nat), (∀ i u, (ss.map Value.string)[i]? = some u → w.cell? ⟨b, o + i, none⟩ = some u) → (∀ s ∈ ss, s.size ≤ maxLen) → StrsAt w ss b o
 | [], _, _, _, _ => trivial
 | s :: ss, b, o, h, hs => ⟨⟨h 0 _ rfl, hs s List.mem_cons_self⟩, strsAt_cells ss b (o + 1) (fun i u hi => by
   have := h (i + 1) u (by simpa using hi)
   rwa [show o + 1 + i = o + (i + 1) by omega]) fun x hx => hs x (List.mem_cons_of_mem _ hx)⟩
theorem strs_owned {w : World} {base : Nat} {v : Value} {n : Nat} {ss : List ByteArray} (h : w.ownsRow base 9 1 v n (ss.map Value.string)) (hn : ss.length = n) (hs : ∀ s ∈ ss, s.size ≤ maxLen) :
  SlIn (fun b => base ≤ b ∧ b < w.heap.size) v ss.length fun b o => StrsAt w ss b o := by
 subst hn
 exact owned_sl h (fun b hb => h.lt b hb) fun b hb hc => strsAt_cells ss b 0 hc hs
attribute [local go_sem] eval_put_same eval_put_ne size_put
def ops48 : Array Oper := #[{ dst := some 21, op := Op.fieldAddr 32 (Operand.tmp 1) 3, type := 0, pos := "ref.go:366", after := #[], guard := none }, { dst := some 22, op := Op.load 29 (Operand.tmp 21), type := 29, pos := "ref.go:366", after := #[{ on := 0, ground := Ground.data }], guard := none }, { dst := some 23, op := Op.move (Operand.tmp 4), type := 3, pos := "ref.go:366", after := #[], guard := none }, { dst := some 24, op := Op.indexAddr 29 (Operand.tmp 22) (Operand.tmp 23), type := 0, pos := "ref.go:366", after := #[{ on := 1, ground := Ground.data }, { on := 2, ground := Ground.data }], guard := none }, { dst := some 25, op := Op.load 32 (Operand.tmp 24), type := 32, pos := "ref.go:366", after := #[{ on := 3, ground := Ground.data }], guard := none }, { dst := some 26, op := Op.call { callee := Callee.value (Operand.func 48), args := #[Operand.tmp 25], argTypes := #[32] }, type := 22, pos := "ref.go:366", after := #[{ on := 4, ground := Ground.data }], guard := none }, { dst := some 27, op := Op.load 32 (Operand.tmp 1), type := 32, pos := "ref.go:366", after := #[], guard := none }, { dst := some 28, op := Op.move (Operand.tmp 4), type := 3, pos := "ref.go:366", after := #[], guard := none }, { dst := some 29, op := Op.call { callee := Callee.value (Operand.func 106), args := #[Operand.tmp 27, Operand.tmp 28], argTypes := #[32, 3] }, type := 22, pos := "ref.go:366", after := #[{ on := 6, ground := Ground.data }, { on := 7, ground := Ground.data }, { on := 5, ground := Ground.chain }], guard := none }, { dst := some 5, op := Op.assign (Operand.tmp 26), type := 22, pos := "ref.go:366", after := #[{ on := 5, ground := Ground.data }, { on := 8, ground := Ground.chain }, { on := 0, ground := Ground.phase }, { on := 1, ground := Ground.phase }, { on := 2, ground := Ground.phase }, { on := 3, ground := Ground.phase }, { on := 4, ground := Ground.phase }, { on := 5, ground := Ground.phase }, { on := 6, ground := Ground.textOnly Departure.lateStores }, { on := 7, ground := Ground.textOnly Departure.lateStores }, { on := 8, ground := Ground.textOnly Departure.lateStoresUnsure }], guard := none }, { dst := some 6, op := Op.assign (Operand.tmp 29), type := 22, pos := "ref.go:366", after := #[{ on := 8, ground := Ground.data }, { on := 9, ground := Ground.chain }, { on := 0, ground := Ground.phase }, { on := 1, ground := Ground.phase }, { on := 2, ground := Ground.phase }, { on := 3, ground := Ground.phase }, { on := 4, ground := Ground.phase }, { on := 5, ground := Ground.phase }, { on := 6, ground := Ground.phase }, { on := 7, ground := Ground.phase }, { on := 8, ground := Ground.phase }, { on := 9, ground := Ground.phase }], guard := none }]
set_option maxHeartbeats 2000000 in
set_option maxRecDepth 100000 in
theorem reg48 {Q : Exit → Act → World → Prop} {a : Act} {U : World} {T : Tm} {qb b o k kc pc : Nat} {pa : Option Addr} {oo nn : Int} {tt : ByteArray} {ka2 pa2 : Option Addr} {kn2 kc2 pn2 pc2 : Nat} {R1 : Value → World → Prop} {R2 : Value → World → World → Prop}
  (hsz : a.tmps.size = 50) (h1 : a.tmps[1]'(by omega) = .pointer (some ⟨qb, 0, none⟩)) (h4 : a.tmps[4]'(by omega) = .int .i64 k)
  (hQ : ∀ c (d : Nat) v (a : Act) w, Q (.panic c) (a.put (some d) v) w → Q (.panic c) a w)
  (hS : (U.cell? ⟨qb, 0, none⟩ = some (.int .i64 T.op) ∧ U.cell? ⟨qb, 1, none⟩ = some (.int .i64 T.n) ∧ U.cell? ⟨qb, 2, none⟩ = some (.string T.text) ∧ U.cell? ⟨qb, 3, none⟩ = some (.slice (some ⟨b, o, none⟩) T.kids.length kc) ∧ U.cell? ⟨qb, 4, none⟩ = some (.slice pa T.pats.length pc)) ∧ (U.cell? ⟨b, o + k * 5, none⟩ = some (.int .i64 oo) ∧ U.cell? ⟨b, o + k * 5 + 1, none⟩ = some (.int .i64 nn) ∧ U.cell? ⟨b, o + k * 5 + 2, none⟩ = some (.string tt) ∧ U.cell? ⟨b, o + k * 5 + 3, none⟩ = some (.slice ka2 kn2 kc2) ∧ U.cell? ⟨b, o + k * 5 + 4, none⟩ = some (.slice pa2 pn2 pc2))) (hqb : qb < U.heap.size) (hbb : b < U.heap.size) (hk : k < T.kids.length)
  (hc1 : Calls Tryz.prog 48 #[.agg #[.int .i64 oo, .int .i64 nn, .string tt, .slice ka2 kn2 kc2, .slice pa2 pn2 pc2]] U.drew fun e w' => (∃ v1, e = .returned v1 ∧ R1 v1 w') ∧ Below U.heap.size U w')
  (hc2 : ∀ w1, Below U.heap.size U w1 → Calls Tryz.prog 106 #[.agg #[.int .i64 T.op, .int .i64 T.n, .string T.text, .slice (some ⟨b, o, none⟩) T.kids.length kc, .slice pa T.pats.length pc], .int .i64 k] w1 fun e w' => (∃ v2, e = .returned v2 ∧ R2 v2 w1 w') ∧ Below w1.heap.size w1 w')
  (hK : ∀ (u21 u22 u23 u24 u25 u27 u28 v1 v2 : Value) (w1 w2 : World), R1 v1 w1 → R2 v2 w1 w2 → Below U.heap.size U w1 → Below w1.heap.size w1 w2 →
   Q .normal { tmps := (((((((((((a.tmps.setIfInBounds 21 u21).setIfInBounds 22 u22).setIfInBounds 23 u23).setIfInBounds 24 u24).setIfInBounds 25 u25).setIfInBounds 27 u27).setIfInBounds 28 u28).setIfInBounds 26 v1).setIfInBounds 29 v2).setIfInBounds 5 v1).setIfInBounds 6 v2), defers := a.defers } w2) :
  (Code.region 7 ops48 true).wp Tryz.prog Q a U := by
 have hS0 : (U.drew.cell? ⟨qb, 0, none⟩ = some (.int .i64 T.op) ∧ U.drew.cell? ⟨qb, 1, none⟩ = some (.int .i64 T.n) ∧ U.drew.cell? ⟨qb, 2, none⟩ = some (.string T.text) ∧ U.drew.cell? ⟨qb, 3, none⟩ = some (.slice (some ⟨b, o, none⟩) T.kids.length kc) ∧ U.drew.cell? ⟨qb, 4, none⟩ = some (.slice pa T.pats.length pc)) ∧ (U.drew.cell? ⟨b, o + k * 5, none⟩ = some (.int .i64 oo) ∧ U.drew.cell? ⟨b, o + k * 5 + 1, none⟩ = some (.int .i64 nn) ∧ U.drew.cell? ⟨b, o + k * 5 + 2, none⟩ = some (.string tt) ∧ U.drew.cell? ⟨b, o + k * 5 + 3, none⟩ = some (.slice ka2 kn2 kc2) ∧ U.drew.cell? ⟨b, o + k * 5 + 4, none⟩ = some (.slice pa2 pn2 pc2)) := hS
 have hk' : (k : Int) < (T.kids.length : Int) := by omega
 have HS := lh hS; have HC1 := lh hc1; have HC2 := lh hc2; have HK := lh hK
 clear hS hc1 hc2 hK
 refine wp_region_z (fun w' => (w'.cell? ⟨qb, 0, none⟩ = some (.int .i64 T.op) ∧ w'.cell? ⟨qb, 1, none⟩ = some (.int .i64 T.n) ∧ w'.cell? ⟨qb, 2, none⟩ = some (.string T.text) ∧ w'.cell? ⟨qb, 3, none⟩ = some (.slice (some ⟨b, o, none⟩) T.kids.length kc) ∧ w'.cell? ⟨qb, 4, none⟩ = some (.slice pa T.pats.length pc)) ∧ (w'.cell? ⟨b, o + k * 5, none⟩ = some (.int .i64 oo) ∧ w'.cell? ⟨b, o + k * 5 + 1, none⟩ = some (.int .i64 nn) ∧ w'.cell? ⟨b, o + k * 5 + 2, none⟩ = some (.string tt) ∧ w'.cell? ⟨b, o + k * 5 + 3, none⟩ = some (.slice ka2 kn2 kc2) ∧ w'.cell? ⟨b, o + k * 5 + 4, none⟩ = some (.slice pa2 pn2 pc2))) 10 (by kernel_rfl) ?_
 refine wpAnyZ_take 0 (oi := { dst := some 21, op := Op.fieldAddr 32 (Operand.tmp 1) 3, type := 0, pos := "ref.go:366", after := #[], guard := none }) hS0 rfl (by kernel_rfl) (by kernel_rfl) (by kernel_rfl) (fun c a w h => hQ c _ _ a w h) (by kernel_rfl) rfl (by rfl) (by rintro w' ⟨⟨k0, k1, k2, k3, k4⟩, ⟨m0, m1, m2, m3, m4⟩⟩; go_simp <;> rfl) ?_
 refine wpAnyZ_take 1 (oi := { dst := some 22, op := Op.load 29 (Operand.tmp 21), type := 29, pos := "ref.go:366", after := #[{ on := 0, ground := Ground.data }], guard := none }) hS0 rfl (by kernel_rfl) (by kernel_rfl) (by kernel_rfl) (fun c a w h => hQ c _ _ a w h) (by kernel_rfl) rfl (by rfl) (by rintro w' ⟨⟨k0, k1, k2, k3, k4⟩, ⟨m0, m1, m2, m3, m4⟩⟩; go_simp <;> rfl) ?_
 refine wpAnyZ_take 2 (oi := { dst := some 23, op := Op.move (Operand.tmp 4), type := 3, pos := "ref.go:366", after := #[], guard := none }) hS0 rfl (by kernel_rfl) (by kernel_rfl) (by kernel_rfl) (fun c a w h => hQ c _ _ a w h) (by kernel_rfl) rfl (by rfl) (by rintro w' ⟨⟨k0, k1, k2, k3, k4⟩, ⟨m0, m1, m2, m3, m4⟩⟩; go_simp <;> rfl) ?_
 refine wpAnyZ_take 3 (oi := { dst := some 24, op := Op.indexAddr 29 (Operand.tmp 22) (Operand.tmp 23), type := 0, pos := "ref.go:366", after := #[{ on := 1, ground := Ground.data }, { on := 2, ground := Ground.data }], guard := none }) hS0 rfl (by kernel_rfl) (by kernel_rfl) (by kernel_rfl) (fun c a w h => hQ c _ _ a w h) (by kernel_rfl) rfl (by rfl) (by rintro w' ⟨⟨k0, k1, k2, k3, k4⟩, ⟨m0, m1, m2, m3, m4⟩⟩; go_simp <;> rfl) ?_
 refine wpAnyZ_take 4 (oi := { dst := some 25, op := Op.load 32 (Operand.tmp 24), type := 32, pos := "ref.go:366", after := #[{ on := 3, ground := Ground.data }], guard := none }) hS0 rfl (by kernel_rfl) (by kernel_rfl) (by kernel_rfl) (fun c a w h => hQ c _ _ a w h) (by kernel_rfl) rfl (by rfl) (by rintro w' ⟨⟨k0, k1, k2, k3, k4⟩, ⟨m0, m1, m2, m3, m4⟩⟩; go_simp <;> rfl) ?_
 refine wpAnyZ_take 6 (oi := { dst := some 27, op := Op.load 32 (Operand.tmp 1), type := 32, pos := "ref.go:366", after := #[], guard := none }) hS0 rfl (by kernel_rfl) (by kernel_rfl) (by kernel_rfl) (fun c a w h => hQ c _ _ a w h) (by kernel_rfl) rfl (by rfl) (by rintro w' ⟨⟨k0, k1, k2, k3, k4⟩, ⟨m0, m1, m2, m3, m4⟩⟩; go_simp <;> rfl) ?_
 refine wpAnyZ_take 7 (oi := { dst := some 28, op := Op.move (Operand.tmp 4), type := 3, pos := "ref.go:366", after := #[], guard := none }) hS0 rfl (by kernel_rfl) (by kernel_rfl) (by kernel_rfl) (fun c a w h => hQ c _ _ a w h) (by kernel_rfl) rfl (by rfl) (by rintro w' ⟨⟨k0, k1, k2, k3, k4⟩, ⟨m0, m1, m2, m3, m4⟩⟩; go_simp <;> rfl) ?_
 clear hS0
 refine wpAnyZ_one 5 (o := { dst := some 26, op := Op.call { callee := Callee.value (Operand.func 48), args := #[Operand.tmp 25], argTypes := #[32] }, type := 22, pos := "ref.go:366", after := #[{ on := 4, ground := Ground.data }], guard := none }) (by kernel_rfl) rfl fun KK hKK => ?_
 go_simp
 refine HC1.out.mono ?_
 rintro e w1 ⟨⟨v1, rfl, hr1⟩, hb1⟩
 have HB1 := lh hb1; have HR1 := lh hr1
 clear hb1 hr1
 refine hKK.out _ _ (fun _ => ⟨⟨(HB1.out.cell (p := ⟨qb, 0, none⟩) hqb).trans HS.out.1.1, (HB1.out.cell (p := ⟨qb, 1, none⟩) hqb).trans HS.out.1.2.1, (HB1.out.cell (p := ⟨qb, 2, none⟩) hqb).trans HS.out.1.2.2.1, (HB1.out.cell (p := ⟨qb, 3, none⟩) hqb).trans HS.out.1.2.2.2.1, (HB1.out.cell (p := ⟨qb, 4, none⟩) hqb).trans HS.out.1.2.2.2.2⟩, ⟨(HB1.out.cell (p := ⟨b, _, none⟩) hbb).trans HS.out.2.1, (HB1.out.cell (p := ⟨b, _, none⟩) hbb).trans HS.out.2.2.1, (HB1.out.cell (p := ⟨b, _, none⟩) hbb).trans HS.out.2.2.2.1, (HB1.out.cell (p := ⟨b, _, none⟩) hbb).trans HS.out.2.2.2.2.1, (HB1.out.cell (p := ⟨b, _, none⟩) hbb).trans HS.out.2.2.2.2.2⟩⟩) ?_
 clear hKK KK
 refine wpAnyZ_one 8 (o := { dst := some 29, op := Op.call { callee := Callee.value (Operand.func 106), args := #[Operand.tmp 27, Operand.tmp 28], argTypes := #[32, 3] }, type := 22, pos := "ref.go:366", after := #[{ on := 6, ground := Ground.data }, { on := 7, ground := Ground.data }, { on := 5, ground := Ground.chain }], guard := none }) (by kernel_rfl) rfl fun KK hKK => ?_
 have HC2' := lh (HC2.out w1 HB1.out)
 go_simp
 refine HC2'.out.mono ?_
 rintro e w2 ⟨⟨v2, rfl, hr2⟩, hb2⟩
 have HB2 := lh hb2; have HR2 := lh hr2; have HBU := lh (HB1.out.trans (hb2.mono HB1.out.size))
 clear hb2 hr2
 refine hKK.out _ _ (fun _ => ⟨⟨(HBU.out.cell (p := ⟨qb, 0, none⟩) hqb).trans HS.out.1.1, (HBU.out.cell (p := ⟨qb, 1, none⟩) hqb).trans HS.out.1.2.1, (HBU.out.cell (p := ⟨qb, 2, none⟩) hqb).trans HS.out.1.2.2.1, (HBU.out.cell (p := ⟨qb, 3, none⟩) hqb).trans HS.out.1.2.2.2.1, (HBU.out.cell (p := ⟨qb, 4, none⟩) hqb).trans HS.out.1.2.2.2.2⟩, ⟨(HBU.out.cell (p := ⟨b, _, none⟩) hbb).trans HS.out.2.1, (HBU.out.cell (p := ⟨b, _, none⟩) hbb).trans HS.out.2.2.1, (HBU.out.cell (p := ⟨b, _, none⟩) hbb).trans HS.out.2.2.2.1, (HBU.out.cell (p := ⟨b, _, none⟩) hbb).trans HS.out.2.2.2.2.1, (HBU.out.cell (p := ⟨b, _, none⟩) hbb).trans HS.out.2.2.2.2.2⟩⟩) ?_
 clear hKK KK
 refine wpAnyZ_one 9 (o := { dst := some 5, op := Op.assign (Operand.tmp 26), type := 22, pos := "ref.go:366", after := #[{ on := 5, ground := Ground.data }, { on := 8, ground := Ground.chain }, { on := 0, ground := Ground.phase }, { on := 1, ground := Ground.phase }, { on := 2, ground := Ground.phase }, { on := 3, ground := Ground.phase }, { on := 4, ground := Ground.phase }, { on := 5, ground := Ground.phase }, { on := 6, ground := Ground.textOnly Departure.lateStores }, { on := 7, ground := Ground.textOnly Departure.lateStores }, { on := 8, ground := Ground.textOnly Departure.lateStoresUnsure }], guard := none }) (by kernel_rfl) rfl fun KK hKK => ?_
 go_simp
 refine hKK.out _ _ (fun _ => ⟨⟨(HBU.out.cell (p := ⟨qb, 0, none⟩) hqb).trans HS.out.1.1, (HBU.out.cell (p := ⟨qb, 1, none⟩) hqb).trans HS.out.1.2.1, (HBU.out.cell (p := ⟨qb, 2, none⟩) hqb).trans HS.out.1.2.2.1, (HBU.out.cell (p := ⟨qb, 3, none⟩) hqb).trans HS.out.1.2.2.2.1, (HBU.out.cell (p := ⟨qb, 4, none⟩) hqb).trans HS.out.1.2.2.2.2⟩, ⟨(HBU.out.cell (p := ⟨b, _, none⟩) hbb).trans HS.out.2.1, (HBU.out.cell (p := ⟨b, _, none⟩) hbb).trans HS.out.2.2.1, (HBU.out.cell (p := ⟨b, _, none⟩) hbb).trans HS.out.2.2.2.1, (HBU.out.cell (p := ⟨b, _, none⟩) hbb).trans HS.out.2.2.2.2.1, (HBU.out.cell (p := ⟨b, _, none⟩) hbb).trans HS.out.2.2.2.2.2⟩⟩) ?_
 clear hKK KK
 refine wpAnyZ_one 10 (o := { dst := some 6, op := Op.assign (Operand.tmp 29), type := 22, pos := "ref.go:366", after := #[{ on := 8, ground := Ground.data }, { on := 9, ground := Ground.chain }, { on := 0, ground := Ground.phase }, { on := 1, ground := Ground.phase }, { on := 2, ground := Ground.phase }, { on := 3, ground := Ground.phase }, { on := 4, ground := Ground.phase }, { on := 5, ground := Ground.phase }, { on := 6, ground := Ground.phase }, { on := 7, ground := Ground.phase }, { on := 8, ground := Ground.phase }, { on := 9, ground := Ground.phase }], guard := none }) (by kernel_rfl) rfl fun KK hKK => ?_
 go_simp
 refine hKK.out _ _ (fun h => absurd rfl h) ?_
 refine wpAnyZ_done (by kernel_rfl) ?_ _
 exact HK.out _ _ _ _ _ _ _ v1 v2 w1 w2 HR1.out HR2.out HB1.out HB2.out
end Go.Proofs.YtjpahjfjpkbcnaaGreat
namespace Go.Proofs.YtjpahjfjpkbcnaaGreat
open Go.Proofs Go.RowKit
def addL (b : List ByteArray) : List ByteArray → List ByteArray → List ByteArray
 | [], out => out
 | x :: xs, out => addL b xs (if hasB b x then out else putL x out)
mutual
def rfree : Tm → List ByteArray
 | .mk op n t ks ps => if op = 4 then [t] else rfreeK (boundL (.mk op n t ks ps)) ks 0 []
def rfreeK (bnd : Nat → List ByteArray) : List Tm → Nat → List ByteArray → List ByteArray
 | [], _, out => out
 | k :: ks, i, out => rfreeK bnd ks (i + 1) (addL (bnd i) (rfree k) out)
end
theorem putL_len (s : ByteArray) : ∀ l : List ByteArray, (putL s l).length ≤ l.length + 1
 | [] => Nat.le_refl _
 | x :: xs => by
  unfold putL
  have := putL_len s xs
  split
  ·simp; omega
  ·split <;> simp
theorem addL_len (b : List ByteArray) : ∀ (xs out : List ByteArray), (addL b xs out).length ≤ out.length + xs.length
 | [], out => by unfold addL; simp
 | x :: xs, out => by
  unfold addL
  have h1 := addL_len b xs (if hasB b x then out else putL x out)
  have h2 : (if hasB b x then out else putL x out).length ≤ out.length + 1 := by
   split
   ·omega
   ·exact putL_len x out
  simp
  omega
mutual
theorem rfree_len : ∀ (T : Tm) (d : Int), (rfree T).length ≤ (partsM d T).length
 | .mk op n t ks ps, d => by
  unfold rfree partsM
  rw [List.length_cons]
  split
  ·simp
  ·have := rfreeK_len (boundL (.mk op n t ks ps)) ks 0 [] (d + 1)
   simp at this
   omega
theorem rfreeK_len (bnd : Nat → List ByteArray) : ∀ (ks : List Tm) (i : Nat) (out : List ByteArray) (d : Int), (rfreeK bnd ks i out).length ≤ out.length + (partssM d ks).length
 | [], i, out, d => by unfold rfreeK; omega
 | k :: ks, i, out, d => by
  unfold rfreeK partssM
  have h1 := rfreeK_len bnd ks (i + 1) (addL (bnd i) (rfree k) out) d
  have h2 := addL_len (bnd i) (rfree k) out
  have h3 := rfree_len k d
  rw [List.length_append]
  omega
end
theorem rfreeK_drop (bnd : Nat → List ByteArray) (ks : List Tm) (k : Nat) (out : List ByteArray) (h : k < ks.length) : rfreeK bnd (ks.drop k) k out = rfreeK bnd (ks.drop (k + 1)) (k + 1) (addL (bnd k) (rfree ks[k]) out) := by
 rw [List.drop_eq_getElem_cons h]
 conv => lhs; unfold rfreeK
theorem addL_drop (b xs out : List ByteArray) (k : Nat) (h : k < xs.length) : addL b (xs.drop k) out = addL b (xs.drop (k + 1)) (if hasB b xs[k] then out else putL xs[k] out) := by
 rw [List.drop_eq_getElem_cons h]
 rfl
theorem partssM_drop (ks : List Tm) (k : Nat) (d : Int) (h : k < ks.length) : (partssM d (ks.drop k)).length = (partsM d ks[k]).length + (partssM d (ks.drop (k + 1))).length := by
 rw [List.drop_eq_getElem_cons h]
 conv => lhs; unfold partssM
 rw [List.length_append]
mutual
theorem partsM_len : ∀ (T : Tm) (d d' : Int), (partsM d T).length = (partsM d' T).length
 | .mk op n t ks ps, d, d' => by
  unfold partsM
  rw [List.length_cons, List.length_cons, partssM_len ks (d + 1) (d' + 1)]
theorem partssM_len : ∀ (ts : List Tm) (d d' : Int), (partssM d ts).length = (partssM d' ts).length
 | [], _, _ => rfl
 | t :: ts, d, d' => by
  unfold partssM
  rw [List.length_append, List.length_append, partsM_len t d d', partssM_len ts d d']
end
mutual
/-- What the specification's walks ask of a term's nodes. -/
def okF : Tm → Prop
 | .mk op _ _ ks ps => (op = 15 → ks.length ≤ ps.length + 1) ∧ ks.length ≤ 900000 ∧ (∀ p ∈ ps, patsB p = true ∧ (partsP 1 p).length ≤ 1000000) ∧ okFs ks
def okFs : List Tm → Prop
 | [] => True
 | k :: ks => okF k ∧ okFs ks
end
theorem okFs_get : ∀ {ks : List Tm}, okFs ks → ∀ (k : Nat) (h : k < ks.length), okF ks[k]
 | p :: ps, h, 0, _ => by unfold okFs at h; exact h.1
 | p :: ps, h, k + 1, hk => by unfold okFs at h; exact okFs_get h.2 k (by simpa using hk)
mutual
def rnM (nm ot : ByteArray) : Tm → Tm
 | .mk op n text kids pats => if op = 4 then .mk op n (if (text.toList == nm.toList) = true then ot else text) kids pats else .mk op n text (rnK nm ot (boundL (.mk op n text kids pats)) kids 0) pats
def rnK (nm ot : ByteArray) (bnd : Nat → List ByteArray) : List Tm → Nat → List Tm
 | [], _ => []
 | k :: ks, i => (if hasB (bnd i) nm = true then k else rnM nm ot k) :: rnK nm ot bnd ks (i + 1)
end
theorem rnM_mk (nm ot : ByteArray) (op n : Int) (text : ByteArray) (kids : List Tm) (pats : List Pt) : rnM nm ot (.mk op n text kids pats) = if op = 4 then .mk op n (if (text.toList == nm.toList) = true then ot else text) kids pats else .mk op n text (rnK nm ot (boundL (.mk op n text kids pats)) kids 0) pats := by
 conv => lhs; unfold rnM
theorem rnK_nil (nm ot : ByteArray) (bnd : Nat → List ByteArray) (i : Nat) : rnK nm ot bnd [] i = [] := by unfold rnK; rfl
theorem rnK_cons (nm ot : ByteArray) (bnd : Nat → List ByteArray) (k : Tm) (ks : List Tm) (i : Nat) : rnK nm ot bnd (k :: ks) i = (if hasB (bnd i) nm = true then k else rnM nm ot k) :: rnK nm ot bnd ks (i + 1) := by conv => lhs; unfold rnK
theorem rnK_snoc (nm ot : ByteArray) (bnd : Nat → List ByteArray) (x : Tm) : ∀ (ks : List Tm) (i : Nat), rnK nm ot bnd (ks ++ [x]) i = rnK nm ot bnd ks i ++ [if hasB (bnd (i + ks.length)) nm = true then x else rnM nm ot x]
 | [], i => by rw [List.nil_append, rnK_cons, rnK_nil, rnK_nil]; rfl
 | k :: ks, i => by
  rw [List.cons_append, rnK_cons, rnK_cons, rnK_snoc nm ot bnd x ks (i + 1), List.length_cons, show i + 1 + ks.length = i + (ks.length + 1) by omega]
  rfl
theorem rnK_len (nm ot : ByteArray) (bnd : Nat → List ByteArray) : ∀ (ks : List Tm) (i : Nat), (rnK nm ot bnd ks i).length = ks.length
 | [], i => by rw [rnK_nil]
 | k :: ks, i => by rw [rnK_cons, List.length_cons, rnK_len nm ot bnd ks (i + 1), List.length_cons]
def rbM (nm ot : ByteArray) (i : Nat) : Tm → Tm
 | .mk op n text kids pats => .mk op n (if op = 15 then text else ot) (kids.set i (rnM nm ot (kids.getD i default))) (if op = 15 then pats.set (i - 1) (rnP nm ot (pats.getD (i - 1) default)) else pats)
theorem FlatA.get {n₀ : Nat} {w : World} : ∀ (ps : List Tm) (cs : List Value), FlatA n₀ w ps cs → ∀ (k : Nat) (hk : k < ps.length), ∃ c0 c1 c2 c3 c4, cs[k * 5]? = some c0 ∧ cs[k * 5 + 1]? = some c1 ∧ cs[k * 5 + 2]? = some c2 ∧ cs[k * 5 + 3]? = some c3 ∧ cs[k * 5 + 4]? = some c4 ∧ TmAt n₀ w ps[k] (.agg #[c0, c1, c2, c3, c4])
 | p :: ps, _, ⟨c0, c1, c2, c3, c4, r, h1, h2, h3⟩, 0, _ => by subst h1; exact ⟨c0, c1, c2, c3, c4, rfl, rfl, rfl, rfl, rfl, h2⟩
 | p :: ps, _, ⟨c0, c1, c2, c3, c4, r, h1, h2, h3⟩, k + 1, hk => by
  subst h1
  obtain ⟨d0, d1, d2, d3, d4, g0, g1, g2, g3, g4, ht⟩ := FlatA.get ps r h3 k (by simpa using hk)
  rw [show (k + 1) * 5 = k * 5 + 5 by omega]
  exact ⟨d0, d1, d2, d3, d4, g0, g1, g2, g3, g4, ht⟩
def FlatQ (n₀ : Nat) (w : World) : List Pt → List Value → Prop
 | [], cs => cs = []
 | p :: ps, cs => ∃ c0 c1 c2 c3 r, cs = c0 :: c1 :: c2 :: c3 :: r ∧ PtAt n₀ w p (.agg #[c0, c1, c2, c3]) ∧ FlatQ n₀ w ps r
theorem FlatQ.of {n₀ : Nat} {w : World} {b : Nat} : ∀ (ps : List Pt) (o : Nat), PtsAt n₀ w ps b o → ∃ cs, FlatQ n₀ w ps cs ∧ ∀ j u, cs[j]? = some u → w.cell? ⟨b, o + j, none⟩ = some u
 | [], _, _ => ⟨[], rfl, fun j u h => by simp at h⟩
 | p :: ps, o, h => by
  unfold PtsAt at h
  obtain ⟨⟨c0, c1, c2, c3, h0, h1, h2, h3, hp⟩, hs⟩ := h
  obtain ⟨r, hr, hc⟩ := FlatQ.of ps (o + 4) hs
  refine ⟨c0 :: c1 :: c2 :: c3 :: r, ⟨c0, c1, c2, c3, r, rfl, hp, hr⟩, fun j u hj => ?_⟩
  match j with
  | 0 => cases hj; exact h0
  | 1 => cases hj; exact h1
  | 2 => cases hj; exact h2
  | 3 => cases hj; exact h3
  | j + 4 =>
   have := hc j u hj
   rwa [Nat.add_assoc, Nat.add_comm 4 j] at this
theorem FlatQ.length {n₀ : Nat} {w : World} : ∀ (ps : List Pt) (cs : List Value), FlatQ n₀ w ps cs → cs.length = ps.length * 4
 | [], cs, h => by cases h; rfl
 | p :: ps, cs, ⟨c0, c1, c2, c3, r, h1, h2, h3⟩ => by
  rw [h1]
  have := FlatQ.length ps r h3
  simp only [List.length_cons]
  omega
theorem FlatQ.one {n₀ : Nat} {w : World} : ∀ (ps : List Pt) (cs : List Value), FlatQ n₀ w ps cs → ∀ u ∈ cs, u.oneCell' = true
 | [], cs, h, u, hu => by cases h; cases hu
 | p :: ps, cs, ⟨c0, c1, c2, c3, r, h1, h2, h3⟩, u, hu => by
  obtain ⟨o, n, t, ka, kn, kc, rfl, rfl, rfl, rfl⟩ := h2.shape
  rw [h1] at hu
  simp only [List.mem_cons] at hu
  rcases hu with rfl | rfl | rfl | rfl | hu
  ·rfl
  ·rfl
  ·rfl
  ·rfl
  ·exact FlatQ.one ps r h3 u hu
theorem FlatQ.get {n₀ : Nat} {w : World} : ∀ (ps : List Pt) (cs : List Value), FlatQ n₀ w ps cs → ∀ (k : Nat) (hk : k < ps.length), ∃ c0 c1 c2 c3, cs[k * 4]? = some c0 ∧ cs[k * 4 + 1]? = some c1 ∧ cs[k * 4 + 2]? = some c2 ∧ cs[k * 4 + 3]? = some c3 ∧ PtAt n₀ w ps[k] (.agg #[c0, c1, c2, c3])
 | p :: ps, _, ⟨c0, c1, c2, c3, r, h1, h2, h3⟩, 0, _ => by subst h1; exact ⟨c0, c1, c2, c3, rfl, rfl, rfl, rfl, h2⟩
 | p :: ps, _, ⟨c0, c1, c2, c3, r, h1, h2, h3⟩, k + 1, hk => by
  subst h1
  obtain ⟨d0, d1, d2, d3, g0, g1, g2, g3, ht⟩ := FlatQ.get ps r h3 k (by simpa using hk)
  rw [show (k + 1) * 4 = k * 4 + 4 by omega]
  exact ⟨d0, d1, d2, d3, g0, g1, g2, g3, ht⟩
theorem FlatQ.keep {n₀ n₁ : Nat} {w w' : World} (hb : ∀ b, b < n₀ → w'.heap[b]? = w.heap[b]?) (hn : n₀ ≤ n₁) : ∀ (ps : List Pt) (cs : List Value), FlatQ n₀ w ps cs → FlatQ n₁ w' ps cs
 | [], _, h => h
 | _ :: ps, _, ⟨c0, c1, c2, c3, r, h1, h2, h3⟩ => ⟨c0, c1, c2, c3, r, h1, PtAt.keepH hb hn _ _ h2, FlatQ.keep hb hn ps r h3⟩
theorem FlatQ.pts {n₀ : Nat} {w : World} {b : Nat} : ∀ (ps : List Pt) (cs : List Value) (o : Nat), FlatQ n₀ w ps cs → (∀ j u, cs[j]? = some u → w.cell? ⟨b, o + j, none⟩ = some u) → PtsAt n₀ w ps b o
 | [], _, _, _, _ => by unfold PtsAt; trivial
 | p :: ps, _, o, ⟨c0, c1, c2, c3, r, h1, h2, h3⟩, hc => by
  subst h1
  unfold PtsAt
  refine ⟨⟨c0, c1, c2, c3, hc 0 c0 rfl, hc 1 c1 rfl, hc 2 c2 rfl, hc 3 c3 rfl, h2⟩, FlatQ.pts ps r (o + 4) h3 fun i u hi => ?_⟩
  rw [Nat.add_assoc, Nat.add_comm 4 i]; exact hc (i + 4) u hi
theorem FlatQ.set {n₀ : Nat} {w : World} {b : Nat} {T : Pt} {e0 e1 e2 e3 : Value} : ∀ (ps : List Pt) (cs : List Value) (o k : Nat), k < ps.length → FlatQ n₀ w ps cs → (∀ j u, (j < k * 4 ∨ k * 4 + 4 ≤ j) → cs[j]? = some u → w.cell? ⟨b, o + j, none⟩ = some u) →
  w.cell? ⟨b, o + k * 4, none⟩ = some e0 → w.cell? ⟨b, o + k * 4 + 1, none⟩ = some e1 → w.cell? ⟨b, o + k * 4 + 2, none⟩ = some e2 → w.cell? ⟨b, o + k * 4 + 3, none⟩ = some e3 → PtAt n₀ w T (.agg #[e0, e1, e2, e3]) → PtsAt n₀ w (ps.set k T) b o
 | [], _, _, _, hk, _, _, _, _, _, _, _ => absurd hk (by simp)
 | p :: ps, _, o, 0, _, ⟨c0, c1, c2, c3, r, h1, h2, h3⟩, hc, g0, g1, g2, g3, ht => by
  subst h1
  simp only [Nat.zero_mul, Nat.add_zero] at g0 g1 g2 g3
  show PtsAt n₀ w (T :: ps) b o
  unfold PtsAt
  refine ⟨⟨e0, e1, e2, e3, g0, g1, g2, g3, ht⟩, FlatQ.pts ps r (o + 4) h3 fun i u hi => ?_⟩
  rw [Nat.add_assoc, Nat.add_comm 4 i]; exact hc (i + 4) u (by omega) hi
 | p :: ps, _, o, k + 1, hk, ⟨c0, c1, c2, c3, r, h1, h2, h3⟩, hc, g0, g1, g2, g3, ht => by
  subst h1
  show PtsAt n₀ w (p :: ps.set k T) b o
  unfold PtsAt
  refine ⟨⟨c0, c1, c2, c3, hc 0 c0 (by omega) rfl, hc 1 c1 (by omega) rfl, hc 2 c2 (by omega) rfl, hc 3 c3 (by omega) rfl, h2⟩, FlatQ.set ps r (o + 4) k (by simpa using hk) h3 (fun i u hi1 hi => ?_) ?_ ?_ ?_ ?_ ht⟩
  ·rw [Nat.add_assoc, Nat.add_comm 4 i]; exact hc (i + 4) u (by omega) hi
  all_goals (first | rw [show o + 4 + k * 4 = o + (k + 1) * 4 by omega]; assumption)
theorem put4 (W : World) (b o : Nat) (t0 t1 t2 t3 u0 u1 u2 u3 : Value) (h0 : W.cell? ⟨b, o, none⟩ = some t0) (h1 : W.cell? ⟨b, o + 1, none⟩ = some t1) (h2 : W.cell? ⟨b, o + 2, none⟩ = some t2) (h3 : W.cell? ⟨b, o + 3, none⟩ = some t3) :
  ∀ W', W' = ((((W.setCell ⟨b, o, none⟩ u0).setCell ⟨b, o + 1, none⟩ u1).setCell ⟨b, o + 2, none⟩ u2).setCell ⟨b, o + 3, none⟩ u3) →
  Kept (fun k => k = b) W W' ∧ (W'.cell? ⟨b, o, none⟩ = some u0 ∧ W'.cell? ⟨b, o + 1, none⟩ = some u1 ∧ W'.cell? ⟨b, o + 2, none⟩ = some u2 ∧ W'.cell? ⟨b, o + 3, none⟩ = some u3) ∧
  ∀ j, (j < o ∨ o + 4 ≤ j) → W'.cell? ⟨b, j, none⟩ = W.cell? ⟨b, j, none⟩ := by
 intro W' hW
 rw [hW]
 obtain ⟨a0, b0⟩ := put1 W b o u0 t0 h0
 obtain ⟨a1, b1⟩ := put1 _ b (o + 1) u1 t1 ((b0 (o + 1) (by omega)).trans h1)
 obtain ⟨a2, b2⟩ := put1 _ b (o + 2) u2 t2 ((b1 (o + 2) (by omega)).trans ((b0 (o + 2) (by omega)).trans h2))
 obtain ⟨a3, b3⟩ := put1 _ b (o + 3) u3 t3 ((b2 (o + 3) (by omega)).trans ((b1 (o + 3) (by omega)).trans ((b0 (o + 3) (by omega)).trans h3)))
 exact ⟨(((kept1 _ b _ u0).trans (kept1 _ b _ u1)).trans (kept1 _ b _ u2)).trans (kept1 _ b _ u3),
  ⟨(b3 o (by omega)).trans ((b2 o (by omega)).trans ((b1 o (by omega)).trans a0)), (b3 _ (by omega)).trans ((b2 _ (by omega)).trans a1), (b3 _ (by omega)).trans a2, a3⟩,
  fun j hj => (b3 j (by omega)).trans ((b2 j (by omega)).trans ((b1 j (by omega)).trans (b0 j (by omega))))⟩
theorem row_lay {w : World} {base size n m : Nat} {e : TypeId} {v : Value} {xs ys : List Value} (h : w.ownsRow base e size v m xs) (hm : m = n) (hx : xs = ys) (hn : 0 < n) : ∃ rg rcap cur, v = .slice (some ⟨rg, 0, none⟩) n rcap ∧ base ≤ rg ∧ w.heap[rg]? = some (.cells cur e (0, 0)) ∧ n ≤ rcap ∧ rcap ≤ maxLen ∧ cur.size = rcap * size ∧ cur.toList.take (n * size) = ys := by
 subst hm; subst hx
 obtain ⟨-, ⟨-, hno⟩ | ⟨rg, rcap, cur, rfl, h1, h2, h3, h4, h5, h6⟩⟩ := h
 ·omega
 ·exact ⟨rg, rcap, cur, rfl, h1, h2, h3, h4, h5, h6⟩
theorem lay_cell {w : World} {rg : Nat} {cur : Array Value} {e : TypeId} {k : Nat} {ys : List Value} (h : w.heap[rg]? = some (.cells cur e (0, 0))) (ht : cur.toList.take k = ys) {j : Nat} {u : Value} (hj : ys[j]? = some u) : w.cell? ⟨rg, j, none⟩ = some u := by
 rw [cell_box h]
 rw [← ht, List.getElem?_take] at hj
 split at hj
 ·simpa using hj
 ·cases hj
def SlX (B : Nat → Prop) (v : Value) (n : Nat) (R : Nat → Nat → Prop) : Prop :=
 (n = 0 ∧ ∃ (a : Option Addr) (cap : Nat), v = .slice a 0 cap ∧ cap ≤ maxLen) ∨ ∃ b o cap, v = .slice (some ⟨b, o, none⟩) n cap ∧ n ≤ cap ∧ cap ≤ maxLen ∧ B b ∧ R b o
theorem SlX.mono {B B' : Nat → Prop} {v : Value} {n : Nat} {R R' : Nat → Nat → Prop} (h : SlX B v n R) (hB : ∀ b, B b → B' b) (hr : ∀ b o, B b → R b o → R' b o) : SlX B' v n R' := by
 rcases h with h | ⟨b, o, cap, h1, h2, h3, h4, h5⟩
 ·exact .inl h
 ·exact .inr ⟨b, o, cap, h1, h2, h3, hB b h4, hr b o h4 h5⟩
theorem SlX.to {B : Nat → Prop} {n₀ : Nat} {v : Value} {n : Nat} {R R' : Nat → Nat → Prop} (h : SlX B v n R) (hB : ∀ b, B b → b < n₀) (hr : ∀ b o, R b o → R' b o) : SlV n₀ v n R' := by
 rcases h with h | ⟨b, o, cap, h1, h2, h3, h4, h5⟩
 ·exact .inl h
 ·exact .inr ⟨b, o, cap, h1, h2, h3, hB b h4, hr b o h5⟩
theorem SlX.of {n₀ : Nat} {v : Value} {n : Nat} {R R' : Nat → Nat → Prop} (h : SlV n₀ v n R) (hr : ∀ b o, R b o → R' b o) : SlX (fun b => b < n₀) v n R' := by
 rcases h with h | ⟨b, o, cap, h1, h2, h3, h4, h5⟩
 ·exact .inl h
 ·exact .inr ⟨b, o, cap, h1, h2, h3, h4, hr b o h5⟩
theorem SlX.ofIn {B : Nat → Prop} {v : Value} {n : Nat} {R R' : Nat → Nat → Prop} (h : SlIn B v n R) (hr : ∀ b o, R b o → R' b o) : SlX B v n R' := by
 rcases h with h | ⟨b, o, cap, h1, h2, h3, h4, h5⟩
 ·exact .inl ⟨h.1, none, 0, h.2, Nat.zero_le _⟩
 ·exact .inr ⟨b, o, cap, h1, h2, h3, h4, hr b o h5⟩
theorem SlX.split {B : Nat → Prop} {v : Value} {n : Nat} {R : Nat → Nat → Prop} (h : SlX B v n R) : ∃ (a : Option Addr) (cap : Nat), v = .slice a n cap ∧ cap ≤ maxLen ∧ n ≤ cap ∧ (0 < n → ∃ b o, a = some ⟨b, o, none⟩ ∧ B b ∧ R b o) := by
 rcases h with ⟨h1, a, cap, h2, h3⟩ | ⟨b, o, cap, h1, h2, h3, h4, h5⟩
 ·exact ⟨a, cap, by rw [h2, h1], h3, by omega, fun h => by omega⟩
 ·exact ⟨some ⟨b, o, none⟩, cap, h1, h3, h2, fun _ => ⟨b, o, rfl, h4, h5⟩⟩
mutual
def PtX (B : Nat → Prop) (w : World) : Pt → Value → Prop
 | .mk form n text parts, v => ∃ kv, v = .agg #[.int .i64 form, .int .i64 n, .string text, kv] ∧ text.size ≤ maxLen ∧ SlX B kv parts.length fun b o => PtsX B w parts b o
def PtsX (B : Nat → Prop) (w : World) : List Pt → Nat → Nat → Prop
 | [], _, _ => True
 | p :: ps, b, o => (∃ c0 c1 c2 c3, w.cell? ⟨b, o, none⟩ = some c0 ∧ w.cell? ⟨b, o + 1, none⟩ = some c1 ∧ w.cell? ⟨b, o + 2, none⟩ = some c2 ∧ w.cell? ⟨b, o + 3, none⟩ = some c3 ∧ PtX B w p (.agg #[c0, c1, c2, c3])) ∧ PtsX B w ps b (o + 4)
end
mutual
def TmX (B : Nat → Prop) (w : World) : Tm → Value → Prop
 | .mk op n text kids pats, v => ∃ kv pv, v = .agg #[.int .i64 op, .int .i64 n, .string text, kv, pv] ∧ text.size ≤ maxLen ∧ SlX B kv kids.length (fun b o => TmsX B w kids b o) ∧ SlX B pv pats.length (fun b o => PtsX B w pats b o)
def TmsX (B : Nat → Prop) (w : World) : List Tm → Nat → Nat → Prop
 | [], _, _ => True
 | p :: ps, b, o => (∃ c0 c1 c2 c3 c4, w.cell? ⟨b, o, none⟩ = some c0 ∧ w.cell? ⟨b, o + 1, none⟩ = some c1 ∧ w.cell? ⟨b, o + 2, none⟩ = some c2 ∧ w.cell? ⟨b, o + 3, none⟩ = some c3 ∧ w.cell? ⟨b, o + 4, none⟩ = some c4 ∧ TmX B w p (.agg #[c0, c1, c2, c3, c4])) ∧ TmsX B w ps b (o + 5)
end
mutual
theorem PtX.keep {B B' : Nat → Prop} {w w' : World} (hb : ∀ b, B b → w'.heap[b]? = w.heap[b]?) (hB : ∀ b, B b → B' b) : ∀ (p : Pt) (v : Value), PtX B w p v → PtX B' w' p v
 | .mk form n text parts, v, h => by
  unfold PtX at h ⊢
  obtain ⟨kv, h1, h2, h3⟩ := h
  exact ⟨kv, h1, h2, h3.mono hB fun b o hlt hr => PtsX.keep hb hB parts b o hlt hr⟩
theorem PtsX.keep {B B' : Nat → Prop} {w w' : World} (hb : ∀ b, B b → w'.heap[b]? = w.heap[b]?) (hB : ∀ b, B b → B' b) : ∀ (ps : List Pt) (b o : Nat), B b → PtsX B w ps b o → PtsX B' w' ps b o
 | [], _, _, _, _ => by unfold PtsX; trivial
 | p :: ps, b, o, hlt, h => by
  unfold PtsX at h ⊢
  obtain ⟨⟨c0, c1, c2, c3, h0, h1, h2, h3, hp⟩, hs⟩ := h
  exact ⟨⟨c0, c1, c2, c3, (cell_of_heap (hb b hlt)).trans h0, (cell_of_heap (hb b hlt)).trans h1, (cell_of_heap (hb b hlt)).trans h2, (cell_of_heap (hb b hlt)).trans h3, PtX.keep hb hB p _ hp⟩, PtsX.keep hb hB ps b _ hlt hs⟩
end
mutual
theorem TmX.keep {B B' : Nat → Prop} {w w' : World} (hb : ∀ b, B b → w'.heap[b]? = w.heap[b]?) (hB : ∀ b, B b → B' b) : ∀ (p : Tm) (v : Value), TmX B w p v → TmX B' w' p v
 | .mk op n text kids pats, v, h => by
  unfold TmX at h ⊢
  obtain ⟨kv, pv, h1, h2, h3, h4⟩ := h
  exact ⟨kv, pv, h1, h2, h3.mono hB fun b o hlt hr => TmsX.keep hb hB kids b o hlt hr, h4.mono hB fun b o hlt hr => PtsX.keep hb hB pats b o hlt hr⟩
theorem TmsX.keep {B B' : Nat → Prop} {w w' : World} (hb : ∀ b, B b → w'.heap[b]? = w.heap[b]?) (hB : ∀ b, B b → B' b) : ∀ (ps : List Tm) (b o : Nat), B b → TmsX B w ps b o → TmsX B' w' ps b o
 | [], _, _, _, _ => by unfold TmsX; trivial
 | p :: ps, b, o, hlt, h => by
  unfold TmsX at h ⊢
  obtain ⟨⟨c0, c1, c2, c3, c4, h0, h1, h2, h3, h4, hp⟩, hs⟩ := h
  exact ⟨⟨c0, c1, c2, c3, c4, (cell_of_heap (hb b hlt)).trans h0, (cell_of_heap (hb b hlt)).trans h1, (cell_of_heap (hb b hlt)).trans h2, (cell_of_heap (hb b hlt)).trans h3, (cell_of_heap (hb b hlt)).trans h4, TmX.keep hb hB p _ hp⟩, TmsX.keep hb hB ps b _ hlt hs⟩
end
mutual
theorem PtX.to {B : Nat → Prop} {n₀ : Nat} {w : World} (hB : ∀ b, B b → b < n₀) : ∀ (p : Pt) (v : Value), PtX B w p v → PtAt n₀ w p v
 | .mk form n text parts, v, h => by
  unfold PtX at h; unfold PtAt
  obtain ⟨kv, h1, h2, h3⟩ := h
  exact ⟨kv, h1, h2, h3.to hB fun b o hr => PtsX.to hB parts b o hr⟩
theorem PtsX.to {B : Nat → Prop} {n₀ : Nat} {w : World} (hB : ∀ b, B b → b < n₀) : ∀ (ps : List Pt) (b o : Nat), PtsX B w ps b o → PtsAt n₀ w ps b o
 | [], _, _, _ => by unfold PtsAt; trivial
 | p :: ps, b, o, h => by
  unfold PtsX at h; unfold PtsAt
  obtain ⟨⟨c0, c1, c2, c3, h0, h1, h2, h3, hp⟩, hs⟩ := h
  exact ⟨⟨c0, c1, c2, c3, h0, h1, h2, h3, PtX.to hB p _ hp⟩, PtsX.to hB ps b _ hs⟩
end
mutual
theorem TmX.to {B : Nat → Prop} {n₀ : Nat} {w : World} (hB : ∀ b, B b → b < n₀) : ∀ (p : Tm) (v : Value), TmX B w p v → TmAt n₀ w p v
 | .mk op n text kids pats, v, h => by
  unfold TmX at h; unfold TmAt
  obtain ⟨kv, pv, h1, h2, h3, h4⟩ := h
  exact ⟨kv, pv, h1, h2, h3.to hB fun b o hr => TmsX.to hB kids b o hr, h4.to hB fun b o hr => PtsX.to hB pats b o hr⟩
theorem TmsX.to {B : Nat → Prop} {n₀ : Nat} {w : World} (hB : ∀ b, B b → b < n₀) : ∀ (ps : List Tm) (b o : Nat), TmsX B w ps b o → TmsAt n₀ w ps b o
 | [], _, _, _ => by unfold TmsAt; trivial
 | p :: ps, b, o, h => by
  unfold TmsX at h; unfold TmsAt
  obtain ⟨⟨c0, c1, c2, c3, c4, h0, h1, h2, h3, h4, hp⟩, hs⟩ := h
  exact ⟨⟨c0, c1, c2, c3, c4, h0, h1, h2, h3, h4, TmX.to hB p _ hp⟩, TmsX.to hB ps b _ hs⟩
end
mutual
theorem PtX.of {n₀ : Nat} {w : World} : ∀ (p : Pt) (v : Value), PtAt n₀ w p v → PtX (fun b => b < n₀) w p v
 | .mk form n text parts, v, h => by
  unfold PtAt at h; unfold PtX
  obtain ⟨kv, h1, h2, h3⟩ := h
  exact ⟨kv, h1, h2, SlX.of h3 fun b o hr => PtsX.of parts b o hr⟩
theorem PtsX.of {n₀ : Nat} {w : World} : ∀ (ps : List Pt) (b o : Nat), PtsAt n₀ w ps b o → PtsX (fun b => b < n₀) w ps b o
 | [], _, _, _ => by unfold PtsX; trivial
 | p :: ps, b, o, h => by
  unfold PtsAt at h; unfold PtsX
  obtain ⟨⟨c0, c1, c2, c3, h0, h1, h2, h3, hp⟩, hs⟩ := h
  exact ⟨⟨c0, c1, c2, c3, h0, h1, h2, h3, PtX.of p _ hp⟩, PtsX.of ps b _ hs⟩
end
mutual
theorem TmX.of {n₀ : Nat} {w : World} : ∀ (p : Tm) (v : Value), TmAt n₀ w p v → TmX (fun b => b < n₀) w p v
 | .mk op n text kids pats, v, h => by
  unfold TmAt at h; unfold TmX
  obtain ⟨kv, pv, h1, h2, h3, h4⟩ := h
  exact ⟨kv, pv, h1, h2, SlX.of h3 fun b o hr => TmsX.of kids b o hr, SlX.of h4 fun b o hr => PtsX.of pats b o hr⟩
theorem TmsX.of {n₀ : Nat} {w : World} : ∀ (ps : List Tm) (b o : Nat), TmsAt n₀ w ps b o → TmsX (fun b => b < n₀) w ps b o
 | [], _, _, _ => by unfold TmsX; trivial
 | p :: ps, b, o, h => by
  unfold TmsAt at h; unfold TmsX
  obtain ⟨⟨c0, c1, c2, c3, c4, h0, h1, h2, h3, h4, hp⟩, hs⟩ := h
  exact ⟨⟨c0, c1, c2, c3, c4, h0, h1, h2, h3, h4, TmX.of p _ hp⟩, TmsX.of ps b _ hs⟩
end
mutual
theorem PtX.ofIn {B : Nat → Prop} {w : World} : ∀ (p : Pt) (v : Value), PtIn B w p v → PtX B w p v
 | .mk form n text parts, v, h => by
  unfold PtIn at h; unfold PtX
  obtain ⟨kv, h1, h2, h3⟩ := h
  exact ⟨kv, h1, h2, SlX.ofIn h3 fun b o hr => PtsX.ofIn parts b o hr⟩
theorem PtsX.ofIn {B : Nat → Prop} {w : World} : ∀ (ps : List Pt) (b o : Nat), PtsIn B w ps b o → PtsX B w ps b o
 | [], _, _, _ => by unfold PtsX; trivial
 | p :: ps, b, o, h => by
  unfold PtsIn at h; unfold PtsX
  obtain ⟨⟨c0, c1, c2, c3, h0, h1, h2, h3, hp⟩, hs⟩ := h
  exact ⟨⟨c0, c1, c2, c3, h0, h1, h2, h3, PtX.ofIn p _ hp⟩, PtsX.ofIn ps b _ hs⟩
end
theorem PtX.shape {B : Nat → Prop} {w : World} {T : Pt} {v : Value} (h : PtX B w T v) : ∃ (a : Option Addr) (cap : Nat), v = .agg #[.int .i64 T.form, .int .i64 T.n, .string T.text, .slice a T.parts.length cap] := by
 cases T with
 | mk op n text kids =>
  unfold PtX at h
  obtain ⟨kv, h1, h2, h3⟩ := h
  obtain ⟨a, cap, rfl, -⟩ := h3.split
  exact ⟨_, _, h1⟩
theorem TmX.shape {B : Nat → Prop} {w : World} {T : Tm} {v : Value} (h : TmX B w T v) : ∃ a cap a' cap', v = .agg #[.int .i64 T.op, .int .i64 T.n, .string T.text, .slice a T.kids.length cap, .slice a' T.pats.length cap'] := by
 cases T with
 | mk op n text kids pats =>
  unfold TmX at h
  obtain ⟨kv, pv, h1, h2, h3, h4⟩ := h
  obtain ⟨a, cap, rfl, -⟩ := h3.split
  obtain ⟨a', cap', rfl, -⟩ := h4.split
  exact ⟨_, _, _, _, h1⟩
theorem TmsX.get {B : Nat → Prop} {w : World} : ∀ (ps : List Tm) (b o : Nat), TmsX B w ps b o → ∀ (i : Nat) (h : i < ps.length),
  ∃ c0 c1 c2 c3 c4, w.cell? ⟨b, o + i * 5, none⟩ = some c0 ∧ w.cell? ⟨b, o + i * 5 + 1, none⟩ = some c1 ∧ w.cell? ⟨b, o + i * 5 + 2, none⟩ = some c2 ∧ w.cell? ⟨b, o + i * 5 + 3, none⟩ = some c3 ∧ w.cell? ⟨b, o + i * 5 + 4, none⟩ = some c4 ∧ TmX B w ps[i] (.agg #[c0, c1, c2, c3, c4])
 | p :: ps, b, o, h, 0, _ => by unfold TmsX at h; simpa using h.1
 | p :: ps, b, o, h, i + 1, hi => by
  unfold TmsX at h
  have := TmsX.get ps b (o + 5) h.2 i (by simpa using hi)
  rw [show o + (i + 1) * 5 = o + 5 + i * 5 by omega]
  simpa using this
def FlaP (B : Nat → Prop) (w : World) : List Pt → List Value → Prop
 | [], cs => cs = []
 | p :: ps, cs => ∃ c0 c1 c2 c3 r, cs = c0 :: c1 :: c2 :: c3 :: r ∧ PtX B w p (.agg #[c0, c1, c2, c3]) ∧ FlaP B w ps r
def FlaM (B : Nat → Prop) (w : World) : List Tm → List Value → Prop
 | [], cs => cs = []
 | p :: ps, cs => ∃ c0 c1 c2 c3 c4 r, cs = c0 :: c1 :: c2 :: c3 :: c4 :: r ∧ TmX B w p (.agg #[c0, c1, c2, c3, c4]) ∧ FlaM B w ps r
theorem FlaP.keep {B B' : Nat → Prop} {w w' : World} (hb : ∀ b, B b → w'.heap[b]? = w.heap[b]?) (hB : ∀ b, B b → B' b) : ∀ (ps : List Pt) (cs : List Value), FlaP B w ps cs → FlaP B' w' ps cs
 | [], _, h => h
 | _ :: ps, _, ⟨c0, c1, c2, c3, r, h1, h2, h3⟩ => ⟨c0, c1, c2, c3, r, h1, PtX.keep hb hB _ _ h2, FlaP.keep hb hB ps r h3⟩
theorem FlaM.keep {B B' : Nat → Prop} {w w' : World} (hb : ∀ b, B b → w'.heap[b]? = w.heap[b]?) (hB : ∀ b, B b → B' b) : ∀ (ps : List Tm) (cs : List Value), FlaM B w ps cs → FlaM B' w' ps cs
 | [], _, h => h
 | _ :: ps, _, ⟨c0, c1, c2, c3, c4, r, h1, h2, h3⟩ => ⟨c0, c1, c2, c3, c4, r, h1, TmX.keep hb hB _ _ h2, FlaM.keep hb hB ps r h3⟩
theorem FlaP.snoc {B : Nat → Prop} {w : World} {p : Pt} {c0 c1 c2 c3 : Value} (hp : PtX B w p (.agg #[c0, c1, c2, c3])) : ∀ (ps : List Pt) (cs : List Value), FlaP B w ps cs → FlaP B w (ps ++ [p]) (cs ++ [c0, c1, c2, c3])
 | [], _, h => by cases h; exact ⟨c0, c1, c2, c3, [], rfl, hp, rfl⟩
 | _ :: ps, _, ⟨d0, d1, d2, d3, r, h1, h2, h3⟩ => ⟨d0, d1, d2, d3, r ++ [c0, c1, c2, c3], by rw [h1]; rfl, h2, FlaP.snoc hp ps r h3⟩
theorem FlaM.snoc {B : Nat → Prop} {w : World} {p : Tm} {c0 c1 c2 c3 c4 : Value} (hp : TmX B w p (.agg #[c0, c1, c2, c3, c4])) : ∀ (ps : List Tm) (cs : List Value), FlaM B w ps cs → FlaM B w (ps ++ [p]) (cs ++ [c0, c1, c2, c3, c4])
 | [], _, h => by cases h; exact ⟨c0, c1, c2, c3, c4, [], rfl, hp, rfl⟩
 | _ :: ps, _, ⟨d0, d1, d2, d3, d4, r, h1, h2, h3⟩ => ⟨d0, d1, d2, d3, d4, r ++ [c0, c1, c2, c3, c4], by rw [h1]; rfl, h2, FlaM.snoc hp ps r h3⟩
theorem FlaP.ptsX {B : Nat → Prop} {w : World} {b : Nat} : ∀ (ps : List Pt) (cs : List Value) (o : Nat), FlaP B w ps cs → (∀ i u, cs[i]? = some u → w.cell? ⟨b, o + i, none⟩ = some u) → PtsX B w ps b o
 | [], _, _, _, _ => by unfold PtsX; trivial
 | p :: ps, _, o, ⟨c0, c1, c2, c3, r, h1, h2, h3⟩, hc => by
  subst h1
  unfold PtsX
  refine ⟨⟨c0, c1, c2, c3, hc 0 c0 rfl, hc 1 c1 rfl, hc 2 c2 rfl, hc 3 c3 rfl, h2⟩, FlaP.ptsX ps r (o + 4) h3 fun i u hi => ?_⟩
  rw [Nat.add_assoc, Nat.add_comm 4 i]; exact hc (i + 4) u hi
theorem FlaM.tmsX {B : Nat → Prop} {w : World} {b : Nat} : ∀ (ps : List Tm) (cs : List Value) (o : Nat), FlaM B w ps cs → (∀ i u, cs[i]? = some u → w.cell? ⟨b, o + i, none⟩ = some u) → TmsX B w ps b o
 | [], _, _, _, _ => by unfold TmsX; trivial
 | p :: ps, _, o, ⟨c0, c1, c2, c3, c4, r, h1, h2, h3⟩, hc => by
  subst h1
  unfold TmsX
  refine ⟨⟨c0, c1, c2, c3, c4, hc 0 c0 rfl, hc 1 c1 rfl, hc 2 c2 rfl, hc 3 c3 rfl, hc 4 c4 rfl, h2⟩, FlaM.tmsX ps r (o + 5) h3 fun i u hi => ?_⟩
  rw [Nat.add_assoc, Nat.add_comm 5 i]; exact hc (i + 5) u hi
theorem FlaM.get {B : Nat → Prop} {w : World} : ∀ (ps : List Tm) (cs : List Value), FlaM B w ps cs → ∀ (k : Nat) (hk : k < ps.length), ∃ c0 c1 c2 c3 c4, cs[k * 5]? = some c0 ∧ cs[k * 5 + 1]? = some c1 ∧ cs[k * 5 + 2]? = some c2 ∧ cs[k * 5 + 3]? = some c3 ∧ cs[k * 5 + 4]? = some c4 ∧ TmX B w ps[k] (.agg #[c0, c1, c2, c3, c4])
 | p :: ps, _, ⟨c0, c1, c2, c3, c4, r, h1, h2, h3⟩, 0, _ => by subst h1; exact ⟨c0, c1, c2, c3, c4, rfl, rfl, rfl, rfl, rfl, h2⟩
 | p :: ps, _, ⟨c0, c1, c2, c3, c4, r, h1, h2, h3⟩, k + 1, hk => by
  subst h1
  obtain ⟨d0, d1, d2, d3, d4, g0, g1, g2, g3, g4, ht⟩ := FlaM.get ps r h3 k (by simpa using hk)
  rw [show (k + 1) * 5 = k * 5 + 5 by omega]
  exact ⟨d0, d1, d2, d3, d4, g0, g1, g2, g3, g4, ht⟩
theorem FlaP.of {B : Nat → Prop} {w : World} {b : Nat} : ∀ (ps : List Pt) (o : Nat), PtsX B w ps b o → ∃ cs, FlaP B w ps cs ∧ ∀ j u, cs[j]? = some u → w.cell? ⟨b, o + j, none⟩ = some u
 | [], _, _ => ⟨[], rfl, fun j u h => by simp at h⟩
 | p :: ps, o, h => by
  unfold PtsX at h
  obtain ⟨⟨c0, c1, c2, c3, h0, h1, h2, h3, hp⟩, hs⟩ := h
  obtain ⟨r, hr, hc⟩ := FlaP.of ps (o + 4) hs
  refine ⟨c0 :: c1 :: c2 :: c3 :: r, ⟨c0, c1, c2, c3, r, rfl, hp, hr⟩, fun j u hj => ?_⟩
  match j with
  | 0 => cases hj; exact h0
  | 1 => cases hj; exact h1
  | 2 => cases hj; exact h2
  | 3 => cases hj; exact h3
  | j + 4 =>
   have := hc j u hj
   rwa [Nat.add_assoc, Nat.add_comm 4 j] at this
theorem FlaP.length {B : Nat → Prop} {w : World} : ∀ (ps : List Pt) (cs : List Value), FlaP B w ps cs → cs.length = ps.length * 4
 | [], cs, h => by cases h; rfl
 | p :: ps, cs, ⟨c0, c1, c2, c3, r, h1, h2, h3⟩ => by
  rw [h1]
  have := FlaP.length ps r h3
  simp only [List.length_cons]
  omega
theorem FlaP.one {B : Nat → Prop} {w : World} : ∀ (ps : List Pt) (cs : List Value), FlaP B w ps cs → ∀ u ∈ cs, u.oneCell' = true
 | [], cs, h, u, hu => by cases h; cases hu
 | p :: ps, cs, ⟨c0, c1, c2, c3, r, h1, h2, h3⟩, u, hu => by
  obtain ⟨a, cap, he⟩ := h2.shape
  simp only [Value.agg.injEq, Array.mk.injEq, List.cons.injEq, and_true] at he
  obtain ⟨rfl, rfl, rfl, rfl⟩ := he
  rw [h1] at hu
  simp only [List.mem_cons] at hu
  rcases hu with rfl | rfl | rfl | rfl | hu
  ·rfl
  ·rfl
  ·rfl
  ·rfl
  ·exact FlaP.one ps r h3 u hu
theorem FlaP.get {B : Nat → Prop} {w : World} : ∀ (ps : List Pt) (cs : List Value), FlaP B w ps cs → ∀ (k : Nat) (hk : k < ps.length), ∃ c0 c1 c2 c3, cs[k * 4]? = some c0 ∧ cs[k * 4 + 1]? = some c1 ∧ cs[k * 4 + 2]? = some c2 ∧ cs[k * 4 + 3]? = some c3 ∧ PtX B w ps[k] (.agg #[c0, c1, c2, c3])
 | p :: ps, _, ⟨c0, c1, c2, c3, r, h1, h2, h3⟩, 0, _ => by subst h1; exact ⟨c0, c1, c2, c3, rfl, rfl, rfl, rfl, h2⟩
 | p :: ps, _, ⟨c0, c1, c2, c3, r, h1, h2, h3⟩, k + 1, hk => by
  subst h1
  obtain ⟨d0, d1, d2, d3, g0, g1, g2, g3, ht⟩ := FlaP.get ps r h3 k (by simpa using hk)
  rw [show (k + 1) * 4 = k * 4 + 4 by omega]
  exact ⟨d0, d1, d2, d3, g0, g1, g2, g3, ht⟩
theorem FlaP.set {B : Nat → Prop} {w : World} {b : Nat} {T : Pt} {e0 e1 e2 e3 : Value} : ∀ (ps : List Pt) (cs : List Value) (o k : Nat), k < ps.length → FlaP B w ps cs → (∀ j u, (j < k * 4 ∨ k * 4 + 4 ≤ j) → cs[j]? = some u → w.cell? ⟨b, o + j, none⟩ = some u) →
  w.cell? ⟨b, o + k * 4, none⟩ = some e0 → w.cell? ⟨b, o + k * 4 + 1, none⟩ = some e1 → w.cell? ⟨b, o + k * 4 + 2, none⟩ = some e2 → w.cell? ⟨b, o + k * 4 + 3, none⟩ = some e3 → PtX B w T (.agg #[e0, e1, e2, e3]) → PtsX B w (ps.set k T) b o
 | [], _, _, _, hk, _, _, _, _, _, _, _ => absurd hk (by simp)
 | p :: ps, _, o, 0, _, ⟨c0, c1, c2, c3, r, h1, h2, h3⟩, hc, g0, g1, g2, g3, ht => by
  subst h1
  simp only [Nat.zero_mul, Nat.add_zero] at g0 g1 g2 g3
  show PtsX B w (T :: ps) b o
  unfold PtsX
  refine ⟨⟨e0, e1, e2, e3, g0, g1, g2, g3, ht⟩, FlaP.ptsX ps r (o + 4) h3 fun i u hi => ?_⟩
  rw [Nat.add_assoc, Nat.add_comm 4 i]; exact hc (i + 4) u (by omega) hi
 | p :: ps, _, o, k + 1, hk, ⟨c0, c1, c2, c3, r, h1, h2, h3⟩, hc, g0, g1, g2, g3, ht => by
  subst h1
  show PtsX B w (p :: ps.set k T) b o
  unfold PtsX
  refine ⟨⟨c0, c1, c2, c3, hc 0 c0 (by omega) rfl, hc 1 c1 (by omega) rfl, hc 2 c2 (by omega) rfl, hc 3 c3 (by omega) rfl, h2⟩, FlaP.set ps r (o + 4) k (by simpa using hk) h3 (fun i u hi1 hi => ?_) ?_ ?_ ?_ ?_ ht⟩
  ·rw [Nat.add_assoc, Nat.add_comm 4 i]; exact hc (i + 4) u (by omega) hi
  all_goals (first | rw [show o + 4 + k * 4 = o + (k + 1) * 4 by omega]; assumption)
theorem FlaM.of {B : Nat → Prop} {w : World} {b : Nat} : ∀ (ps : List Tm) (o : Nat), TmsX B w ps b o → ∃ cs, FlaM B w ps cs ∧ ∀ j u, cs[j]? = some u → w.cell? ⟨b, o + j, none⟩ = some u
 | [], _, _ => ⟨[], rfl, fun j u h => by simp at h⟩
 | p :: ps, o, h => by
  unfold TmsX at h
  obtain ⟨⟨c0, c1, c2, c3, c4, h0, h1, h2, h3, h4, hp⟩, hs⟩ := h
  obtain ⟨r, hr, hc⟩ := FlaM.of ps (o + 5) hs
  refine ⟨c0 :: c1 :: c2 :: c3 :: c4 :: r, ⟨c0, c1, c2, c3, c4, r, rfl, hp, hr⟩, fun j u hj => ?_⟩
  match j with
  | 0 => cases hj; exact h0
  | 1 => cases hj; exact h1
  | 2 => cases hj; exact h2
  | 3 => cases hj; exact h3
  | 4 => cases hj; exact h4
  | j + 5 =>
   have := hc j u hj
   rwa [Nat.add_assoc, Nat.add_comm 5 j] at this
theorem FlaM.length {B : Nat → Prop} {w : World} : ∀ (ps : List Tm) (cs : List Value), FlaM B w ps cs → cs.length = ps.length * 5
 | [], cs, h => by cases h; rfl
 | p :: ps, cs, ⟨c0, c1, c2, c3, c4, r, h1, h2, h3⟩ => by
  rw [h1]
  have := FlaM.length ps r h3
  simp only [List.length_cons]
  omega
theorem FlaM.one {B : Nat → Prop} {w : World} : ∀ (ps : List Tm) (cs : List Value), FlaM B w ps cs → ∀ u ∈ cs, u.oneCell' = true
 | [], cs, h, u, hu => by cases h; cases hu
 | p :: ps, cs, ⟨c0, c1, c2, c3, c4, r, h1, h2, h3⟩, u, hu => by
  obtain ⟨a, cap, a', cap', he⟩ := h2.shape
  simp only [Value.agg.injEq, Array.mk.injEq, List.cons.injEq, and_true] at he
  obtain ⟨rfl, rfl, rfl, rfl, rfl⟩ := he
  rw [h1] at hu
  simp only [List.mem_cons] at hu
  rcases hu with rfl | rfl | rfl | rfl | rfl | hu
  ·rfl
  ·rfl
  ·rfl
  ·rfl
  ·rfl
  ·exact FlaM.one ps r h3 u hu
theorem FlaM.set {B : Nat → Prop} {w : World} {b : Nat} {T : Tm} {e0 e1 e2 e3 e4 : Value} : ∀ (ps : List Tm) (cs : List Value) (o k : Nat), k < ps.length → FlaM B w ps cs → (∀ j u, (j < k * 5 ∨ k * 5 + 5 ≤ j) → cs[j]? = some u → w.cell? ⟨b, o + j, none⟩ = some u) →
  w.cell? ⟨b, o + k * 5, none⟩ = some e0 → w.cell? ⟨b, o + k * 5 + 1, none⟩ = some e1 → w.cell? ⟨b, o + k * 5 + 2, none⟩ = some e2 → w.cell? ⟨b, o + k * 5 + 3, none⟩ = some e3 → w.cell? ⟨b, o + k * 5 + 4, none⟩ = some e4 → TmX B w T (.agg #[e0, e1, e2, e3, e4]) → TmsX B w (ps.set k T) b o
 | [], _, _, _, hk, _, _, _, _, _, _, _, _ => absurd hk (by simp)
 | p :: ps, _, o, 0, _, ⟨c0, c1, c2, c3, c4, r, h1, h2, h3⟩, hc, g0, g1, g2, g3, g4, ht => by
  subst h1
  simp only [Nat.zero_mul, Nat.add_zero] at g0 g1 g2 g3 g4
  show TmsX B w (T :: ps) b o
  unfold TmsX
  refine ⟨⟨e0, e1, e2, e3, e4, g0, g1, g2, g3, g4, ht⟩, FlaM.tmsX ps r (o + 5) h3 fun i u hi => ?_⟩
  rw [Nat.add_assoc, Nat.add_comm 5 i]; exact hc (i + 5) u (by omega) hi
 | p :: ps, _, o, k + 1, hk, ⟨c0, c1, c2, c3, c4, r, h1, h2, h3⟩, hc, g0, g1, g2, g3, g4, ht => by
  subst h1
  show TmsX B w (p :: ps.set k T) b o
  unfold TmsX
  refine ⟨⟨c0, c1, c2, c3, c4, hc 0 c0 (by omega) rfl, hc 1 c1 (by omega) rfl, hc 2 c2 (by omega) rfl, hc 3 c3 (by omega) rfl, hc 4 c4 (by omega) rfl, h2⟩, FlaM.set ps r (o + 5) k (by simpa using hk) h3 (fun i u hi1 hi => ?_) ?_ ?_ ?_ ?_ ?_ ht⟩
  ·rw [Nat.add_assoc, Nat.add_comm 5 i]; exact hc (i + 5) u (by omega) hi
  all_goals (first | rw [show o + 5 + k * 5 = o + (k + 1) * 5 by omega]; assumption)
def OwnX (B : Nat → Prop) (W W' : World) (v : Value) (b : Nat) : Prop := B b ∨ Own W W' v b
theorem ownX_step {B : Nat → Prop} {w wr w1 w' : World} {vo v' : Value} {X : Obj} (hBb : ∀ b, B b → b < w.heap.size) (hB : Below w.heap.size w wr) (hb1 : Below wr.heap.size wr w1) (hown : ∀ k, vo.ownBlock = some k → w.heap.size ≤ k ∧ k < wr.heap.size)
  (hgr : (w1.alloc X).grownBy w' vo.ownBlock) (hat : v'.ownBlock = vo.ownBlock ∨ v'.ownBlock = some (w1.alloc X).heap.size) :
  (∀ b, OwnX B w wr vo b → w'.heap[b]? = wr.heap[b]?) ∧ (∀ b, OwnX B w wr vo b → OwnX B w w' v' b) ∧ (∀ b, (B b ∨ wr.heap.size ≤ b) → b < w1.heap.size → w'.heap[b]? = w1.heap[b]? ∧ OwnX B w w' v' b) ∧ Below w.heap.size w w' := by
 obtain ⟨s1, s2, s3, s4⟩ := own_step hB hb1 hown hgr hat
 have hs := hB.size
 refine ⟨fun b h => ?_, fun b h => ?_, fun b h hlt => ?_, s4⟩
 ·rcases h with h | h
  ·have := hBb b h
   exact (s4.block b (by omega)).trans (hB.block b (by omega)).symm
  ·exact s1 b h
 ·exact h.imp_right (s2 b)
 ·rcases h with h | h
  ·have := hBb b h
   exact ⟨(s4.block b (by omega)).trans ((hb1.block b (by omega)).trans (hB.block b (by omega))).symm, .inl h⟩
  ·exact ⟨(s3 b h hlt).1, .inr (s3 b h hlt).2⟩
theorem TmX.cells {B : Nat → Prop} {w : World} {T : Tm} {c0 c1 c2 c3 c4 : Value} (h : TmX B w T (.agg #[c0, c1, c2, c3, c4])) :
  ∃ (o n : Int) (t : ByteArray) (ka : Option Addr) (kn kc : Nat) (pa : Option Addr) (pn pc : Nat), c0 = .int .i64 o ∧ c1 = .int .i64 n ∧ c2 = .string t ∧ c3 = .slice ka kn kc ∧ c4 = .slice pa pn pc := by
 obtain ⟨a, cap, a', cap', he⟩ := h.shape
 simp only [Value.agg.injEq, Array.mk.injEq, List.cons.injEq, and_true] at he
 obtain ⟨rfl, rfl, rfl, rfl, rfl⟩ := he
 exact ⟨_, _, _, _, _, _, _, _, _, rfl, rfl, rfl, rfl, rfl⟩
theorem PtX.cells {B : Nat → Prop} {w : World} {T : Pt} {c0 c1 c2 c3 : Value} (h : PtX B w T (.agg #[c0, c1, c2, c3])) :
  ∃ (o n : Int) (t : ByteArray) (ka : Option Addr) (kn kc : Nat), c0 = .int .i64 o ∧ c1 = .int .i64 n ∧ c2 = .string t ∧ c3 = .slice ka kn kc := by
 obtain ⟨a, cap, he⟩ := h.shape
 simp only [Value.agg.injEq, Array.mk.injEq, List.cons.injEq, and_true] at he
 obtain ⟨rfl, rfl, rfl, rfl⟩ := he
 exact ⟨_, _, _, _, _, _, rfl, rfl, rfl, rfl⟩
set_option maxHeartbeats 2000000 in
set_option maxRecDepth 10000 in
theorem put_in (B : Nat → Prop) (l : List ByteArray) (s : ByteArray) (v : Value) (w : World) (hBb : ∀ b, B b → b < w.heap.size) (hv : SlIn B v l.length fun b o => StrsAt w l b o) (hs : s.size ≤ maxLen) (hn : l.length ≤ 1000000) :
  Calls Tryz.prog 107 #[v, .string s] w fun e w' => (∃ v', e = .returned v' ∧ SlIn (fun b => B b ∨ Fresh w w' b) v' (putL s l).length fun b o => StrsAt w' (putL s l) b o) ∧ Below w.heap.size w w' := by
 rcases hv with ⟨hl, rfl⟩ | ⟨b, o, cap, rfl, hlc, hcm, hbb, hss⟩
 ·obtain rfl : l = [] := List.eq_nil_of_length_eq_zero hl
  clear hl
  go_enter Tryz.func107, Tryz.ntmps107
  go_wp2
  go_loop [5] (fun i => i = .int .i64 0) (fun _ => 0)
  case atStart => rfl
  case round =>
   subst hrel
   go_wp2
   refine reg107n (l := []) (k := 0) rfl rfl rfl rfl (fun _ _ _ _ _ h => h) (fun _ _ => .inl ⟨rfl, rfl, rfl⟩) (fun _ _ => .inl ⟨rfl, rfl, rfl⟩) (by simp) (Nat.le_refl _) rfl ?_
   intro a' w' v g1 g2 g3 hr hb
   have HR := lh hr; have HB := lh hb
   clear hr hb
   obtain ⟨ts, dsf⟩ := a'
   simp at g2
   subst g2
   go_wp2
   refine bodyPost_ret (v := v) (by simp [results, Tryz.results107, go_sem, g3]) rfl ⟨⟨_, rfl, ?_⟩, HB.out⟩
   exact (strs_owned (ss := [s]) HR.out rfl (by intro x hx; simp at hx; subst hx; exact hs)).mono (fun b h => .inr ⟨h.1, h.2⟩) fun _ _ _ h => h
 ·have hbn := hBb b hbb
  have HSS := lh hss
  have hmax : ∀ x ∈ l, x.size ≤ maxLen := fun x hx => by
   obtain ⟨j, hj, rfl⟩ := List.getElem_of_mem hx
   exact (StrsAt.get l b o hss j hj).2
  have HMX := lh hmax
  clear hss hmax
  have hcm' := hcm
  unfold maxLen at hcm
  go_enter Tryz.func107, Tryz.ntmps107
  go_wp2
  go_loop [5] (fun i => ∃ k : Nat, k ≤ l.length ∧ i = .int .i64 k ∧ Hid (idxB s l = k + idxB s (l.drop k))) (fun i => l.length - (intOf i).toNat)
  case atStart => exact ⟨0, Nat.zero_le _, rfl, by unfold Hid; simp⟩
  case round =>
   obtain ⟨k, hk, rfl, HP⟩ := hrel
   have hfin : ∀ (Q : Exit → Act → World → Prop) (a : Act), k ≤ cap → putL s l = l.take k ++ s :: l.drop k → (hsz : a.tmps.size = 44) → (h0 : a.tmps[0]'(by omega) = (.slice (some ⟨b, o, none⟩) l.length cap)) → (h1 : a.tmps[1]'(by omega) = .string s) → (h5 : a.tmps[5]'(by omega) = .int .i64 k) →
     (hQ : ∀ c (d : Nat) v (a : Act) w, Q (.panic c) (a.put (some d) v) w → Q (.panic c) a w) →
     (∀ (a' : Act) (w' : World) (v : Value), a'.tmps.size = 44 → a'.defers = a.defers → a'.tmps[4]? = some v → SlIn (fun b => B b ∨ Fresh w w' b) v (putL s l).length (fun b o => StrsAt w' (putL s l) b o) → Below w.heap.size w w' → Q .normal a' w') →
     (Code.region 6 ops107 true).wp Tryz.prog Q a w := by
    intro Q a hkc hpl hsz h0 h1 h5 hQ hK
    obtain ⟨ad, had⟩ : ∃ ad : Addr, (if cap = k then some (⟨b, o, none⟩ : Addr) else some ⟨b, o + k, none⟩) = some ad := by split <;> exact ⟨_, rfl⟩
    refine reg107 (l := l) (k := k) (b := b) (o := o) (cap := cap) (ad := ad) hsz h0 h1 h5 hQ (fun w' hb => ?_) (fun w' hb => ?_) hn hk hkc had ?_
    ·refine .inr ⟨⟨b, o, none⟩, cap, rfl, by simp; omega, fun j u hj => ?_, string_one _⟩
     rw [addr_add]
     have h2 := StrsAt.take l k b o (StrsAt.keep hb _ _ _ hbn HSS.out)
     exact StrsAt.cells _ b o h2 j u hj
    ·by_cases hck : cap = k
     ·have hl0 : l.length - k = 0 := by omega
      have hd0 : l.drop k = [] := List.drop_eq_nil_of_le (by omega)
      rw [hl0, hd0]
      exact .inr ⟨ad, _, rfl, rfl, fun j u hj => by simp at hj, fun u hu => by simp at hu⟩
     ·rw [if_neg hck] at had
      cases had
      refine .inr ⟨⟨b, o + k, none⟩, cap - k, rfl, by simp, fun j u hj => ?_, string_one _⟩
      rw [addr_add, Nat.add_assoc]
      have h2 := StrsAt.cells l b o (StrsAt.keep hb _ _ _ hbn HSS.out) (k + j) u
      rw [List.map_drop, List.getElem?_drop] at hj
      exact h2 hj
    ·intro a' w' v g1 g2 g3 hr hb
     refine hK a' w' v g1 g2 g3 ?_ hb
     rw [hpl]
     refine (strs_owned hr (by simp; omega) ?_).mono (fun b h => .inr ⟨h.1, h.2⟩) fun _ _ _ h => h
     intro x hx
     rcases List.mem_append.1 hx with h | h
     ·exact HMX.out x (List.mem_of_mem_take h)
     ·rcases List.mem_cons.1 h with rfl | h
      ·exact hs
      ·exact HMX.out x (List.mem_of_mem_drop h)
   have HFIN := lh hfin
   clear hfin
   by_cases hlt : k < l.length
   ·obtain ⟨hg, hgs⟩ := StrsAt.get l b o HSS.out k hlt
    have hlt' : (k : Int) < (l.length : Int) := by omega
    have hd := idxB_drop s l k hlt
    cases hx : ltB l[k] s with
    | true =>
     rw [hx] at hd
     have hx' : Op.bytesLess l[k].toList s.toList = true := hx
     have HD := lh hd
     clear hd hx
     go_wp2
     go_round
     case rel => exact ⟨k + 1, by omega, by go_num, by unfold Hid; rw [HP.out, HD.out, if_pos rfl]; omega⟩
     case measure => simp [intOf]; omega
    | false =>
     rw [hx] at hd
     have hx' : Op.bytesLess l[k].toList s.toList = false := hx
     have hik : idxB s l = k := by rw [HP.out, hd]; rfl
     have hpl := putL_at s l k hik
     rw [dif_pos hlt] at hpl
     cases heq : l[k].toList == s.toList with
     | true =>
      rw [heq, if_pos rfl] at hpl
      have HPL := lh hpl
      clear hd hx hik hpl
      go_wp2
      go_ret
      refine ⟨⟨_, rfl, ?_⟩, Below.refl _ _⟩
      rw [HPL.out]
      exact .inr ⟨b, o, cap, rfl, hlc, hcm', .inl hbb, HSS.out⟩
     | false =>
      rw [heq] at hpl
      have HPL := lh hpl
      clear hd hx hik hpl
      go_wp2
      refine HFIN.out _ _ (by omega) HPL.out rfl rfl rfl rfl (fun _ _ _ _ _ h => h) ?_
      intro a' w' v g1 g2 g3 hr hb
      have HR := lh hr; have HB := lh hb
      clear hr hb
      obtain ⟨ts, dsf⟩ := a'
      simp at g2
      subst g2
      go_wp2
      exact bodyPost_ret (v := v) (by simp [results, Tryz.results107, go_sem, g3]) rfl ⟨⟨_, rfl, HR.out⟩, HB.out⟩
   ·have hlt' : ¬ ((k : Int) < (l.length : Int)) := by omega
    have hik : idxB s l = k := by rw [HP.out, List.drop_eq_nil_of_le (by omega)]; rfl
    have hpl := putL_at s l k hik
    rw [dif_neg hlt] at hpl
    have HPL := lh hpl
    clear hik hpl
    go_wp2
    refine HFIN.out _ _ (by omega) HPL.out rfl rfl rfl rfl (fun _ _ _ _ _ h => h) ?_
    intro a' w' v g1 g2 g3 hr hb
    have HR := lh hr; have HB := lh hb
    clear hr hb
    obtain ⟨ts, dsf⟩ := a'
    simp at g2
    subst g2
    go_wp2
    exact bodyPost_ret (v := v) (by simp [results, Tryz.results107, go_sem, g3]) rfl ⟨⟨_, rfl, HR.out⟩, HB.out⟩
set_option maxHeartbeats 4000000 in
set_option maxRecDepth 100000 in
theorem refFree_in (T : Tm) : ∀ (v : Value) (w : World), TmAt w.heap.size w T v → okF T → (partsM 1 T).length ≤ 100000 →
  Calls Tryz.prog 48 #[v] w fun e w' => (∃ v', e = .returned v' ∧ SlIn (Fresh w w') v' (rfree T).length fun b o => StrsAt w' (rfree T) b o) ∧ Below w.heap.size w w' := by
 induction hT : SizeOf.sizeOf T using Nat.strongRecOn generalizing T with
 | _ m ih =>
 subst hT
 intro v w hv hok hlen
 have HIH := lh ih; clear ih
 cases T with
 | mk op n text kids pats =>
 have hv' := hv
 unfold TmAt at hv
 obtain ⟨kv, pv, rfl, htx, hk, hp⟩ := hv
 obtain ⟨a, cap, rfl, hcap, hlc, hka⟩ := hk.split
 obtain ⟨a', cap', rfl, -⟩ := hp.split
 have hok' := hok
 unfold okF at hok
 have hbx := heap_alloc_new w (.cells #[.int .i64 op, .int .i64 n, .string text, .slice a kids.length cap, .slice a' pats.length cap'] 32)
 have hb0 := (Below.refl w.heap.size w).alloc (Nat.le_refl _) (.cells #[.int .i64 op, .int .i64 n, .string text, .slice a kids.length cap, .slice a' pats.length cap'] 32)
 have hszA : (w.alloc (.cells #[.int .i64 op, .int .i64 n, .string text, .slice a kids.length cap, .slice a' pats.length cap'] 32)).heap.size = w.heap.size + 1 := by simp
 unfold maxLen at hcap
 by_cases h4 : op = 4
 ·have hr : rfree (.mk op n text kids pats) = [text] := by conv => lhs; unfold rfree; rw [if_pos h4]
  have hend : (∃ v', Ending.returned (.slice (some ⟨w.heap.size + 1, 0, none⟩) 1 1) = Ending.returned v' ∧ SlIn (Fresh w ((w.alloc (.cells #[.int .i64 op, .int .i64 n, .string text, .slice a kids.length cap, .slice a' pats.length cap'] 32)).alloc (.cells #[.string text] 9))) v' [text].length fun b o => StrsAt ((w.alloc (.cells #[.int .i64 op, .int .i64 n, .string text, .slice a kids.length cap, .slice a' pats.length cap'] 32)).alloc (.cells #[.string text] 9)) [text] b o) := by
   have hc := heap_alloc_new (w.alloc (.cells #[.int .i64 op, .int .i64 n, .string text, .slice a kids.length cap, .slice a' pats.length cap'] 32)) (.cells #[.string text] 9)
   rw [hszA] at hc
   exact ⟨_, rfl, .inr ⟨w.heap.size + 1, 0, 1, rfl, Nat.le_refl _, by unfold maxLen; omega, ⟨by omega, by simp⟩, ⟨cell_box hc, htx⟩, trivial⟩⟩
  rw [hr]
  have HEND := lh hend; have HB := lh (hb0.alloc hb0.size (.cells #[.string text] 9))
  subst h4
  clear hk hp hka hbx hb0 hr HIH hend hok hok' hv' hlen hszA
  go_enter Tryz.func48, Tryz.ntmps48
  go_wp2
  go_ret
  exact ⟨HEND.out, HB.out⟩
 have hr : rfree (.mk op n text kids pats) = rfreeK (boundL (.mk op n text kids pats)) kids 0 [] := by conv => lhs; unfold rfree; rw [if_neg h4]
 have hln : (partssM 2 kids).length ≤ 100000 := by
  unfold partsM at hlen
  rw [List.length_cons] at hlen
  have e : (1 : Int) + 1 = 2 := rfl
  rw [e] at hlen
  omega
 have HR := lh hr; have HOK := lh hok; have HLN := lh hln; have HV := lh hv'
 have HKA := lh hka; have HBX := lh hbx; have HB0 := lh hb0; have HSZ := lh hszA
 clear hk hp hka hbx hb0 hr hok hok' hv' hlen hszA hln
 have h4' : (op == 4) = false := by simpa using h4
 go_enter Tryz.func48, Tryz.ntmps48
 go_wp2
 generalize (w.alloc (.cells #[.int .i64 op, .int .i64 n, .string text, .slice a kids.length cap, .slice a' pats.length cap'] 32)) = W at *
 go_loopw [3, 4] (fun vo i wr => ∃ (k : Nat) (out : List ByteArray), k ≤ kids.length ∧ i = .int .i64 k ∧ (SlIn (Fresh w wr) vo out.length fun b o => StrsAt wr out b o) ∧ Hid (rfree (.mk op n text kids pats) = rfreeK (boundL (.mk op n text kids pats)) (kids.drop k) k out) ∧ out.length + (partssM 2 (kids.drop k)).length ≤ 100000 ∧ Below (w.heap.size + 1) W wr) (fun _ i _ => kids.length - (intOf i).toNat)
 case atStart => exact ⟨0, [], Nat.zero_le _, rfl, .inl ⟨rfl, rfl⟩, HR.out, by simpa using HLN.out, Below.refl _ _⟩
 case round =>
  obtain ⟨k, out, hk, rfl, hvo, HP, hol, hB⟩ := hrel
  have hbx := bget hB HBX.out (by omega)
  have hbw : Below w.heap.size w wr := HB0.out.trans (hB.mono (by omega))
  have hsz : w.heap.size + 1 ≤ wr.heap.size := by have := hB.size; have := HSZ.out; omega
  obtain ⟨oa, oc, rfl⟩ := hvo.split
  obtain ⟨c0, c1, c2, c3, c4⟩ := cells5 hbx
  by_cases hlt : k < kids.length
  ·have hlt' : (k : Int) < (kids.length : Int) := by omega
   obtain ⟨b, o, rfl, hbn, hps⟩ := HKA.out (by omega)
   obtain ⟨e0, e1, e2, e3, e4, g0, g1, g2, g3, g4, ht⟩ := TmsAt.get kids b o hps k hlt
   obtain ⟨oo, nn, tt, ka, kn, kc, pa, pn, pc, rfl, rfl, rfl, rfl, rfl⟩ := ht.shape
   have q0 := (hbw.cell (p := ⟨b, _, none⟩) hbn).trans g0
   have q1 := (hbw.cell (p := ⟨b, _, none⟩) hbn).trans g1
   have q2 := (hbw.cell (p := ⟨b, _, none⟩) hbn).trans g2
   have q3 := (hbw.cell (p := ⟨b, _, none⟩) hbn).trans g3
   have q4 := (hbw.cell (p := ⟨b, _, none⟩) hbn).trans g4
   have hbd : Below w.heap.size w wr.drew := hbw.trans (below_drew _ _)
   have hpd := partssM_drop kids k 2 hlt
   have hd12 : (partsM 1 kids[k]).length = (partsM 2 kids[k]).length := partsM_len _ _ _
   have hcl := HIH.out _ (kid_lt k hlt) kids[k] rfl _ wr.drew (TmAt.keep hbd hbd.size _ _ ht) (okFs_get HOK.out.2.2.2 k hlt) (by omega)
   have hc1 : Calls Tryz.prog 48 #[.agg #[.int .i64 oo, .int .i64 nn, .string tt, .slice ka kn kc, .slice pa pn pc]] wr.drew fun e w' => (∃ v1, e = .returned v1 ∧ SlIn (fun x => x < w'.heap.size) v1 (rfree kids[k]).length fun b o => StrsAt w' (rfree kids[k]) b o) ∧ Below wr.heap.size wr w' := hcl.mono fun e w' ⟨h1, h2⟩ => ⟨h1.imp fun v h => ⟨h.1, h.2.mono (fun b h => h.2) fun _ _ _ h => h⟩, (below_drew _ _).trans h2⟩
   have hc2 : ∀ w1, Below wr.heap.size wr w1 → Calls Tryz.prog 106 #[.agg #[.int .i64 (Tm.mk op n text kids pats).op, .int .i64 (Tm.mk op n text kids pats).n, .string (Tm.mk op n text kids pats).text, .slice (some ⟨b, o, none⟩) (Tm.mk op n text kids pats).kids.length cap, .slice a' (Tm.mk op n text kids pats).pats.length cap'], .int .i64 k] w1 fun e w' => (∃ v2, e = .returned v2 ∧ SlIn (Fresh w1 w') v2 (boundL (.mk op n text kids pats) k).length fun b o => StrsAt w' (boundL (.mk op n text kids pats) k) b o) ∧ Below w1.heap.size w1 w' := fun w1 h1 => by
    have hw1 : Below w.heap.size w w1 := hbw.trans (h1.mono hbw.size)
    exact Binds_any (.mk op n text kids pats) k _ w1 (TmAt.keep hw1 hw1.size _ _ HV.out) (by have := HOK.out.2.1; omega) (fun h h0 => by have h1 : kids.length ≤ pats.length + 1 := HOK.out.1 h; show k - 1 < pats.length; omega) (fun p hp => HOK.out.2.2.1 p hp)
   have HC1 := lh hc1; have HC2 := lh hc2; have HB := lh hB; have HVO := lh hvo; have HBW := lh hbw; have HBXR := lh hbx
   clear hcl hc1 hc2 hB hvo hbw hbd g0 g1 g2 g3 g4 ht hps hbx
   go_upto_region 7 with fail
   refine reg48 (T := .mk op n text kids pats) (qb := w.heap.size) (b := b) (o := o) (k := k) (R1 := fun v1 w' => SlIn (fun x => x < w'.heap.size) v1 (rfree kids[k]).length fun b o => StrsAt w' (rfree kids[k]) b o) (R2 := fun v2 w1 w' => SlIn (Fresh w1 w') v2 (boundL (.mk op n text kids pats) k).length fun b o => StrsAt w' (boundL (.mk op n text kids pats) k) b o) rfl rfl rfl (fun _ _ _ _ _ h => h) ⟨⟨c0, c1, c2, c3, c4⟩, ⟨q0, q1, q2, q3, q4⟩⟩ (by omega) (by omega) hlt HC1.out HC2.out ?_
   intro u21 u22 u23 u24 u25 u27 u28 v1 v2 w1 w2 hr1 hr2 hb1 hb2
   simp only [List.setIfInBounds_toArray, List.set_cons_zero, List.set_cons_succ]
   have hv1 : SlIn (fun x => x < w2.heap.size) v1 (rfree kids[k]).length fun b o => StrsAt w2 (rfree kids[k]) b o := hr1.mono (fun b h => Nat.lt_of_lt_of_le h hb2.size) fun b o h hs => StrsAt.keep hb2 _ _ _ h hs
   have hv2 : SlIn (fun x => x < w2.heap.size) v2 (boundL (.mk op n text kids pats) k).length fun b o => StrsAt w2 (boundL (.mk op n text kids pats) k) b o := hr2.mono (fun b h => h.2) fun _ _ _ h => h
   have hb12 : Below wr.heap.size wr w2 := hb1.trans (hb2.mono hb1.size)
   have hvo2 : SlIn (Fresh w w2) (.slice oa out.length oc) out.length fun b o => StrsAt w2 out b o := HVO.out.mono (fun b h => ⟨h.1, Nat.lt_of_lt_of_le h.2 hb12.size⟩) fun b o h hs => StrsAt.keep hb12 _ _ _ h.2 hs
   have hbW2 : Below (w.heap.size + 1) W w2 := HB.out.trans (hb12.mono hsz)
   have hsz2 := hbW2.size
   have hlx := rfree_len kids[k] 2
   have hnx : rfree (.mk op n text kids pats) = rfreeK (boundL (.mk op n text kids pats)) (kids.drop (k + 1)) (k + 1) (addL (boundL (.mk op n text kids pats) k) (rfree kids[k]) out) := HP.out.trans (rfreeK_drop _ _ _ _ hlt)
   have HNX := lh hnx
   generalize rfree kids[k] = xs at *
   generalize boundL (.mk op n text kids pats) k = bs at *
   obtain ⟨xa, xc, rfl⟩ := hv1.split
   obtain ⟨ba, bc, rfl⟩ := hv2.split
   have HV1 := lh hv1; have HV2 := lh hv2; have HVO2 := lh hvo2; have HBW2 := lh hbW2
   clear hv1 hv2 hvo2 hbW2 hr1 hr2 hb1 hb2 hb12 hnx c0 c1 c2 c3 c4 q0 q1 q2 q3 q4 HC1 HC2
   go_wp2
   generalize wr = wc at *
   go_loopw [3, 7] (fun vo i wr => ∃ (j : Nat) (out' : List ByteArray), j ≤ xs.length ∧ i = .int .i64 j ∧ (SlIn (Fresh w wr) vo out'.length fun b o => StrsAt wr out' b o) ∧ Hid (addL bs xs out = addL bs (xs.drop j) out') ∧ out'.length ≤ out.length + j ∧ Below w2.heap.size w2 wr) (fun _ i _ => xs.length - (intOf i).toNat)
   case atStart => exact ⟨0, out, Nat.zero_le _, rfl, HVO2.out, rfl, Nat.le_refl _, Below.refl _ _⟩
   case round =>
    obtain ⟨j, out', hj, rfl, hvj, HPj, holj, hBj⟩ := hrel
    obtain ⟨ja, jc, rfl⟩ := hvj.split
    have hsj := hBj.size
    by_cases hltj : j < xs.length
    ·have hltj' : (j : Int) < (xs.length : Int) := by omega
     have h1 := HV1.out
     rcases h1 with ⟨h0, -⟩ | ⟨xb, xo, xcap, hx1, hx2, hx3, hx4, hx5⟩
     ·omega
     cases hx1
     obtain ⟨hg, hgs⟩ := StrsAt.get xs xb xo hx5 j hltj
     have hgj := (hBj.cell (p := ⟨xb, xo + j, none⟩) hx4).trans hg
     have hbs : SsAt wr.heap.size wr bs (.slice ba bs.length bc) := (HV2.out.mono (B' := fun b => b < w2.heap.size) (R' := fun b o => StrsAt wr bs b o) (fun b h => h) fun b o h hs => StrsAt.keep hBj _ _ _ h hs).to (fun b h => Nat.lt_of_lt_of_le h hsj) fun _ _ h => h
     have hcl := Has_any bs _ xs[j] wr hbs
     have hd := addL_drop bs xs out' j hltj
     cases hx : hasB bs xs[j] with
     | true =>
      rw [hx] at hcl hd
      have HC := lh hcl; have HD := lh hd; have HVJ := lh hvj; have HBJ := lh hBj
      clear hcl hd hvj hBj hx hbs hg hx5
      go_wp2_with fail
      refine HC.out.mono ?_
      rintro e w3 ⟨rfl, hb3⟩
      have hvj3 : SlIn (Fresh w w3) (.slice ja out'.length jc) out'.length fun b o => StrsAt w3 out' b o := HVJ.out.mono (fun b h => ⟨h.1, Nat.lt_of_lt_of_le h.2 hb3.size⟩) fun b o h hs => StrsAt.keep hb3 _ _ _ h.2 hs
      have HVJ3 := lh hvj3; have HB3 := lh (HBJ.out.trans (hb3.mono hsj))
      clear hvj3 hb3 HC hgj
      go_wp2
      go_roundw
      case rel => exact ⟨j + 1, out', by omega, by go_num, HVJ3.out, by unfold Hid; rw [HPj.out, HD.out]; simp, by omega, HB3.out⟩
      case measure => simp [intOf]; omega
     | false =>
      rw [hx] at hcl hd
      have HC := lh hcl; have HD := lh hd; have HVJ := lh hvj; have HBJ := lh hBj
      have HX5 := lh hx5
      clear hcl hd hvj hBj hx hbs hg hx5
      go_wp2_with fail
      refine HC.out.mono ?_
      rintro e w3 ⟨rfl, hb3⟩
      have hvj3 : SlIn (Fresh w w3) (.slice ja out'.length jc) out'.length fun b o => StrsAt w3 out' b o := HVJ.out.mono (fun b h => ⟨h.1, Nat.lt_of_lt_of_le h.2 hb3.size⟩) fun b o h hs => StrsAt.keep hb3 _ _ _ h.2 hs
      have hB3 : Below w2.heap.size w2 w3 := HBJ.out.trans (hb3.mono hsj)
      have hgj3 := (hB3.cell (p := ⟨xb, xo + j, none⟩) hx4).trans (StrsAt.get xs xb xo HX5.out j hltj).1
      have hcp := put_in (Fresh w w3) out' xs[j] _ w3 (fun b h => h.2) hvj3 hgs (by omega)
      have hpl := putL_len xs[j] out'
      have HCP := lh hcp; have HB3 := lh hB3
      have hs3 := hB3.size
      clear hvj3 hb3 HC hgj hcp hB3
      go_wp2_with fail
      refine HCP.out.mono ?_
      rintro e w4 ⟨⟨v4, rfl, hv4⟩, hb4⟩
      have hww3 : w.heap.size ≤ w3.heap.size := by have := HBW2.out.size; have := HSZ.out; omega
      have hw34 := hb4.size
      have HV4 := lh (SlIn.mono (B' := Fresh w w4) hv4 (fun b h => h.elim (fun h => ⟨h.1, Nat.lt_of_lt_of_le h.2 hw34⟩) fun h => ⟨Nat.le_trans hww3 h.1, h.2⟩) fun _ _ _ h => h); have HB4 := lh (HB3.out.trans (hb4.mono hs3))
      clear hv4 hb4 HCP hgj3
      go_wp2
      go_roundw
      case rel => exact ⟨j + 1, putL xs[j] out', by omega, by go_num, HV4.out, by unfold Hid; rw [HPj.out, HD.out]; rfl, by omega, HB4.out⟩
      case measure => simp [intOf]; omega
    ·have hltj' : ¬ ((j : Int) < (xs.length : Int)) := by omega
     have hend : addL bs xs out = out' := by
      rw [HPj.out, List.drop_eq_nil_of_le (by omega)]
      rfl
     have HEND := lh hend; have HVJ := lh hvj
     have HB4 := lh (HBW2.out.trans (hBj.mono (by have := HSZ.out; omega)))
     clear hend hvj hBj
     go_wp2
     go_roundw
     case rel => exact ⟨k + 1, out', by omega, by go_num, HVJ.out, by unfold Hid; rw [HNX.out, HEND.out], by omega, HB4.out⟩
     case measure => simp [intOf]; omega
  ·have hlt' : ¬ ((k : Int) < (kids.length : Int)) := by omega
   have hend : rfree (.mk op n text kids pats) = out := by
    rw [HP.out, List.drop_eq_nil_of_le (by omega)]
    unfold rfreeK; rfl
   have HEND := lh hend; have HBW := lh hbw; have HVO := lh hvo
   clear hend hbw hbx hvo
   go_wp2
   go_ret
   rw [HEND.out]
   exact ⟨⟨_, rfl, HVO.out⟩, HBW.out⟩
end Go.Proofs.YtjpahjfjpkbcnaaGreat
